/-
  The walk of: for every list of strings and every string the law FnExactParseFormula returns true and leaves its arguments as they were, where the listed table reads as the text lays it (the card ties it). (Printed by wip/tools/gen_exact_parse_formula.py.)
-/
import Derived.Test.YtplchhahjmoodaaDoorCards
import Derived.Test.YtplchhahjmoodaaDoorTie
import Derived.ChangeMaps5
import Derived.Deep.RegionHeld3
import Derived.Deep.DeepWitnessRowRef
import Derived.LaidMore
import Derived.Test.YtplchhahjmoodaaDoorZ29
import Derived.Test.YtplchhahjmoodaaDoorZ09
import Derived.Test.YtplchhahjmoodaaDoorZ50
import Derived.Test.YtplchhahjmoodaaDoorZ03
namespace Go.Proofs.YtplchhahjmoodaaDoor.exactParseFormula
open Go Go.RowKit Go.ChangeShapes Go.WideShapes Go.ChangeAt

/-- The law said true, and nothing old has turned. -/
def TrueEnd (w : World) (e : Ending) (w' : World) : Prop := e = .returned (.bool true) ∧ Below w.heap.size w w'

/-- What is known while the law goes on: the model's formula, in its box X0, all below L; the program's formula's box X1. -/
structure Now (w W : World) (X0 X1 L : Nat) (t0 t1 : Ft) : Prop where
  below : Below w.heap.size w W
  m0 : t0.Mine W w.heap.size X0
  b0 : BoxL W X0 t0.cells
  b1 : BoxL W X1 t1.cells
  o0 : w.heap.size ≤ X0
  o1 : X0 < L
  o2 : L ≤ X1
  o3 : X1 < W.heap.size
section
variable {w W W' : World} {X0 X1 L lo hi : Nat} {t0 t1 : Ft}
theorem Now.turn (h : Now w W X0 X1 L t0 t1) (t : Turn lo hi W W') (hlo : L ≤ lo) (hhi : hi ≤ X1 ∨ X1 < lo) : Now w W' X0 X1 L t0 t1 := by
  have h0 := h.o0
  have h1 := h.o1
  have h2 := h.o2
  have h3 := h.o3
  exact ⟨h.below.trans (t.low (by omega)), Ft.Mine.turn t t0 h.m0 (.inr (by omega)), h.b0.turn t (.inl (by omega)), h.b1.turn t (by omega), h0, h1, h2, Nat.lt_of_lt_of_le h3 t.size⟩
theorem Now.call (h : Now w W X0 X1 L t0 t1) (hb : Below W.heap.size W W') : Now w W' X0 X1 L t0 t1 :=
  h.turn (Turn.of_below (lo := W.heap.size) (hi := W.heap.size) hb) (by have := h.o2; have := h.o3; omega) (.inr h.o3)
theorem Now.in0 (h : Now w W X0 X1 L t0 t1) : t0.In W W.heap.size := Ft.Mine.in_ t0 h.m0 (by have := h.o1; have := h.o2; have := h.o3; omega)
end
theorem parsed_size {ss : List ByteArray} {s : ByteArray} {f : Fm} {ok : Bool} (h : Parsed ss s f ok) : f.size ≤ 40 := by
  rcases h with ⟨_, h1, h2⟩ | ⟨_, rfl, _⟩
  · unfold fmText at h2
    by_cases hg : goodVars ss = true ∧ isFmB ss.length f = true
    · exact (form_parts hg.2).2
    · rw [if_neg hg] at h2
      exact (h1 h2.symm).elim
  · decide
theorem rest_size (t : Ft) (h : t.er.size ≤ 40) : Fm.sizes (t.args.map Ft.er) ≤ 40 := by
  have := t.size_er
  omega

set_option maxRecDepth 100000 in
set_option maxHeartbeats 3200000 in
theorem walk (sa : Option Addr) (sc : Nat) (ss : List ByteArray) (s : ByteArray) (w : World) (hs : ss.length ≤ maxLen) (hws : ∀ s ∈ ss, s.size ≤ maxLen) (hrow : Row w w.heap.size sa (strVals ss)) (hsz : s.size ≤ maxLen) (hwt : HasFormulaWords w) (hsw : SwC w) :
    Calls Tryd.prog 3 #[.slice sa ss.length sc, .string s] w (TrueEnd w) := by
  by_cases hbig : 1048576 < s.size
  · clear hrow hwt hsw hws hs
    go_enter Tryd.func3, Tryd.ntmps3
    go_wp2
    go_ret
    exact ⟨rfl, Below.refl _ _⟩
  have hss : s.size ≤ 1048576 := by omega
  have hat : ∀ W, Below w.heap.size w W → Row W W.heap.size sa (strVals ss) ∧ HasFormulaWords W ∧ SwC W := fun W hb => ⟨(hrow.below hb).grow hb.size, hwt.keeps hb, hsw.keeps hb⟩
  have HAT := Lib.hid hat
  clear hat hrow hwt hsw hsz
  go_enter Tryd.func3, Tryd.ntmps3
  go_wp2_with fail
  refine (szStrs sa sc ss 1048576 _ (by omega) hs hws (HAT.out _ (Below.refl _ _)).1).mono ?_
  rintro e w1 ⟨r, rfl, rfl, hr, hsz⟩
  by_cases hneg : r < 0
  · go_wp2
    go_ret
    exact ⟨rfl, Below.refl _ _⟩
  have hn20 : ss.length ≤ 1048576 := by have := hsz (by omega); omega
  clear hsz hr
  go_wp2_with fail
  refine (toStrs sa sc ss _ (by omega) (HAT.out _ (Below.refl _ _)).1).mono ?_
  rintro e w2 ⟨rfl, ho2, hb2⟩
  go_wp2_with fail
  refine (specParseF ss _ _ s w2 (by omega) hs hws (Row.owned ho2)).mono ?_
  rintro e w3 ⟨t0, ok, rfl, hp0, hm0, hb3⟩
  have HP0 := Lib.hid hp0
  have hB3 := hb2.trans (hb3.mono hb2.size)
  have hz2 := hb2.size
  have hz3 := hb3.size
  clear ho2 hb2 hb3 hp0
  obtain ⟨W3, hW3, hbw3, X3⟩ := one_boxL5 w3 [.int .i64 t0.kd, .int .i64 t0.k, .int .i64 t0.u, .int .i64 t0.v, .slice t0.a t0.args.length t0.cap] 26
  simp only [List.toArray] at hW3
  have HW3 := Lib.hid hW3
  clear hW3
  go_wp2_with fail
  rw [HW3.out]
  have hBW3 := hB3.trans (hbw3.mono hB3.size)
  refine (toStrs sa sc ss _ (by omega) (HAT.out _ hBW3).1).mono ?_
  rintro e w4 ⟨rfl, ho4, hb4⟩
  have hB4 := hBW3.trans (hb4.mono hBW3.size)
  have hm4 := Ft.Mine.below (Ft.Mine.below hm0 hbw3) hb4
  have X4 := X3.below hb4
  have hzw3 := hbw3.size
  have hz4 := hb4.size
  have hX3lt := X3.lt
  have hg4 := (ho4.lt W3.heap.size rfl).2
  obtain ⟨G, hG⟩ : ∃ G, W3.heap.size = G := ⟨_, rfl⟩
  rw [hG] at ho4 hz4 hg4 hX3lt hzw3 ⊢
  clear hB3 hBW3 hbw3 hb4 hm0 X3 hG
  go_wp2_with fail
  refine (implParseF ss _ _ s w4 ⟨Row.owned ho4, (HAT.out _ hB4).2.1, (HAT.out _ hB4).2.2⟩ hss hs hws).mono ?_
  rintro e w5 ⟨t1, ok1, rfl, hp1, hm1, hb5⟩
  obtain ⟨heq, rfl⟩ := Parsed.one hp1 HP0.out
  have hz5 := hb5.size
  have X45 := X4.below hb5
  have x0 := X45.c 0 _ rfl
  have x1 := X45.c 1 _ rfl
  have x2 := X45.c 2 _ rfl
  have x3 := X45.c 3 _ rfl
  have x4 := X45.c 4 _ rfl
  have xl := X45.lt
  have xne : ¬ w3.heap.size = w5.heap.size := by omega
  have xne' : ¬ w5.heap.size = w3.heap.size := by omega
  obtain ⟨W5, hW5, hbw5, X5⟩ := one_boxL5 w5 [.int .i64 t1.kd, .int .i64 t1.k, .int .i64 t1.u, .int .i64 t1.v, .slice t1.a t1.args.length t1.cap] 26
  simp only [List.toArray] at hW5
  have hb45 := hb5.trans (hbw5.mono hz5)
  have hX5lt := X5.lt
  have N5 : Now w W5 w3.heap.size w5.heap.size G t0 t1 := ⟨hB4.trans (hb45.mono hB4.size), Ft.Mine.below (Ft.Mine.grow t0 hm4 (by omega) (Nat.le_refl _) (by omega)) hb45, X4.below hb45, X5, by omega, hX3lt, by omega, hX5lt⟩
  have M5 := Ft.Mine.below hm1 hbw5
  have ho5 := own_keeps ho4 hb45
  have HW5 := Lib.hid hW5
  have HEQ := Lib.hid heq
  have hs1 : t1.er.size ≤ 40 := by rw [heq]; exact parsed_size HP0.out
  have HS1 := Lib.hid hs1
  clear hB4 ho4 hb5 hp1 hm1 hb45 hW5 heq hbw5 X5 X4 X45 hm4 hs1
  have hLX : G + 1 ≤ w4.heap.size := hg4
  go_wp2_with fail
  rw [HW5.out]
  clear x0 x1 x2 x3 x4 xl
  refine (eqTree t1 t0 HEQ.out W5 (Ft.short_of_size _ (by have := HS1.out; omega)) (Ft.Mine.in_ t1 M5 (by omega)) N5.in0).mono ?_
  rintro e w6 ⟨rfl, hb6⟩
  have N6 := N5.call hb6
  have M6 := Ft.Mine.below M5 hb6
  have ho6 := own_keeps ho5 hb6
  clear N5 M5 ho5 hb6
  go_wp2_with fail
  refine (toStrs sa sc ss _ (by omega) (HAT.out _ N6.below).1).mono ?_
  rintro e w7 ⟨rfl, ho7, hb7⟩
  have N7 := N6.call hb7
  have M7 := Ft.Mine.below M6 hb7
  have hox7 := own_keeps ho6 hb7
  clear N6 M6 ho6 hb7
  go_wp2_with fail
  refine (eqStrs _ _ _ _ ss _ hs (Row.owned hox7) (Row.owned ho7)).mono ?_
  rintro e w8 ⟨d1, rfl, rfl⟩
  have hd : Below w7.heap.size w7 (w7.drewN d1) := below_draws (Below.refl _ _) _
  have N8 := N7.call hd
  have M8 := Ft.Mine.below M7 hd
  have ho8 := own_keeps hox7 hd
  clear N7 M7 hox7 ho7 hd
  generalize w7.drewN d1 = w8 at *
  go_wp2_with fail
  refine (markStrsT G 1 ss.length ss.length _ w8 (by omega) (by omega) ho8).mono ?_
  rintro e w9 ⟨rfl, t9⟩
  have N9 := N8.turn t9 (Nat.le_refl _) (.inl (by omega))
  have M9 := Ft.Mine.turn t9 t1 M8 (.inl hLX)
  clear N8 M8 ho8 t9
  obtain ⟨K, hK⟩ : ∃ K : Int, (((1 + ss.length : Nat) : Int)) = K := ⟨_, rfl⟩
  have hK0 : ¬ K < 0 := by omega
  rw [hK]
  clear hK
  have a0 := N9.b1.c 0 _ rfl
  have a1 := N9.b1.c 1 _ rfl
  have a2 := N9.b1.c 2 _ rfl
  have a3 := N9.b1.c 3 _ rfl
  have a4 := N9.b1.c 4 _ rfl
  have c0 := N9.b0.c 0 _ rfl
  have c1 := N9.b0.c 1 _ rfl
  have c2 := N9.b0.c 2 _ rfl
  have c3 := N9.b0.c 3 _ rfl
  have c4 := N9.b0.c 4 _ rfl
  go_wp2_with fail
  refine (eqTree t1 t0 HEQ.out w9 (Ft.short_of_size _ (by have := HS1.out; omega)) (Ft.Mine.in_ t1 M9 (by have := N9.o3; omega)) N9.in0).mono ?_
  rintro e w10 ⟨rfl, hb10⟩
  have N10 := N9.call hb10
  have M10 := Ft.Mine.below M9 hb10
  clear N9 M9 hb10
  clear a0 a1 a2 a3 a4 c0 c1 c2 c3 c4
  have a0 := N10.b1.c 0 _ rfl
  have a1 := N10.b1.c 1 _ rfl
  have a2 := N10.b1.c 2 _ rfl
  have a3 := N10.b1.c 3 _ rfl
  have a4 := N10.b1.c 4 _ rfl
  have c0 := N10.b0.c 0 _ rfl
  have c1 := N10.b0.c 1 _ rfl
  have c2 := N10.b0.c 2 _ rfl
  have c3 := N10.b0.c 3 _ rfl
  have c4 := N10.b0.c 4 _ rfl
  go_wp2_with fail
  have HR := Lib.hid (rest_size t1 HS1.out)
  refine (markFormula t1 w4.heap.size w5.heap.size 1 w10 (by have := HR.out; omega) (by have := HR.out; omega) M10).mono ?_
  rintro e w11 ⟨rfl, M11, t11⟩
  have N11 := N10.turn t11 (by omega) (.inl (Nat.le_refl _))
  clear N10 M10 t11
  clear a0 a1 a2 a3 a4 c0 c1 c2 c3 c4
  have a0 := N11.b1.c 0 _ rfl
  have a1 := N11.b1.c 1 _ rfl
  have a2 := N11.b1.c 2 _ rfl
  have a3 := N11.b1.c 3 _ rfl
  have a4 := N11.b1.c 4 _ rfl
  have c0 := N11.b0.c 0 _ rfl
  have c1 := N11.b0.c 1 _ rfl
  have c2 := N11.b0.c 2 _ rfl
  have c3 := N11.b0.c 3 _ rfl
  have c4 := N11.b0.c 4 _ rfl
  obtain ⟨Q, hQ⟩ : ∃ Q : Int, (((1 + 4 * Fm.sizes (t1.args.map Ft.er) : Nat) : Int)) = Q := ⟨_, rfl⟩
  have hQ0 : ¬ Q < 0 := by omega
  rw [hQ]
  have HQ := Lib.hid hQ
  clear hQ
  go_wp2_with fail
  refine (heldFormula t1 1 w11 (by have := HR.out; omega) (by have := HR.out; omega) (Ft.Mine.in_ _ M11 (by have := N11.o3; omega))).mono ?_
  rintro e w12 ⟨rfl, hb12⟩
  rw [HQ.out]
  have N12 := N11.call hb12
  have M12 := Ft.Mine.below M11 hb12
  clear N11 M11 hb12
  clear a0 a1 a2 a3 a4 c0 c1 c2 c3 c4
  go_wp2_with fail
  refine (toStrs sa sc ss _ (by omega) (HAT.out _ N12.below).1).mono ?_
  rintro e w13 ⟨rfl, ho13, hb13⟩
  have N13 := N12.call hb13
  have M13 := Ft.Mine.below M12 hb13
  clear N12 M12 hb13
  go_wp2_with fail
  refine (implParseF ss _ _ s w13 ⟨Row.owned ho13, (HAT.out _ N13.below).2.1, (HAT.out _ N13.below).2.2⟩ hss hs hws).mono ?_
  rintro e w14 ⟨t2, ok2, rfl, hp2, hm2, hb14⟩
  obtain ⟨heq2, rfl⟩ := Parsed.one hp2 HP0.out
  have N14 := N13.call hb14
  have M14 := Ft.Mine.below M13 hb14
  obtain ⟨W15, hW15, hbw15, X15⟩ := one_boxL5 w14 [.int .i64 t2.kd, .int .i64 t2.k, .int .i64 t2.u, .int .i64 t2.v, .slice t2.a t2.args.length t2.cap] 26
  simp only [List.toArray] at hW15
  have N15 := N14.call hbw15
  have M15 := Ft.Mine.below M14 hbw15
  have m15 := Ft.Mine.below hm2 hbw15
  have HW15 := Lib.hid hW15
  have HEQ2 := Lib.hid heq2
  have hs2 : t2.er.size ≤ 40 := by rw [heq2]; exact parsed_size HP0.out
  have HS2 := Lib.hid hs2
  have hzw15 := hbw15.size
  have a0 := N14.b1.c 0 _ rfl
  have a1 := N14.b1.c 1 _ rfl
  have a2 := N14.b1.c 2 _ rfl
  have a3 := N14.b1.c 3 _ rfl
  have a4 := N14.b1.c 4 _ rfl
  have c0 := N14.b0.c 0 _ rfl
  have c1 := N14.b0.c 1 _ rfl
  have c2 := N14.b0.c 2 _ rfl
  have c3 := N14.b0.c 3 _ rfl
  have c4 := N14.b0.c 4 _ rfl
  have cl := N14.b0.lt
  have cne : ¬ w3.heap.size = w14.heap.size := by omega
  have cne' : ¬ w14.heap.size = w3.heap.size := by omega
  clear N13 M13 N14 M14 hb14 hp2 heq2 hs2 hW15 hm2 ho13 hbw15 X15
  go_wp2_with fail
  rw [HW15.out]
  refine (eqTree t2 t0 HEQ2.out W15 (Ft.short_of_size _ (by have := HS2.out; omega)) (Ft.Mine.in_ t2 m15 (by omega)) N15.in0).mono ?_
  rintro e w16 ⟨rfl, hb16⟩
  have N16 := N15.call hb16
  have M16 := Ft.Mine.below M15 hb16
  clear N15 M15 m15 hb16
  clear a0 a1 a2 a3 a4 c0 c1 c2 c3 c4
  have a0 := N16.b1.c 0 _ rfl
  have a1 := N16.b1.c 1 _ rfl
  have a2 := N16.b1.c 2 _ rfl
  have a3 := N16.b1.c 3 _ rfl
  have a4 := N16.b1.c 4 _ rfl
  have c0 := N16.b0.c 0 _ rfl
  have c1 := N16.b0.c 1 _ rfl
  have c2 := N16.b0.c 2 _ rfl
  have c3 := N16.b0.c 3 _ rfl
  have c4 := N16.b0.c 4 _ rfl
  go_wp2_with fail
  refine (heldFormula t1 1 w16 (by have := HR.out; omega) (by have := HR.out; omega) (Ft.Mine.in_ _ M16 (by have := N16.o3; omega))).mono ?_
  rintro e w17 ⟨rfl, hb17⟩
  rw [HQ.out]
  have hB := (N16.call hb17).below
  clear N16 M16
  go_wp2
  go_ret
  exact ⟨rfl, hB⟩
end Go.Proofs.YtplchhahjmoodaaDoor.exactParseFormula
