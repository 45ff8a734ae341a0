/-
  The program's ParseFormula: its answer is the formula whose text it was, or none.
-/
import Derived.Test.YtplchhahjmoodaaGreatDoorZ49
import Derived.Test.YtplchhahjmoodaaGreatDoorZ47
namespace Go.Proofs.YtplchhahjmoodaaGreatDoor
open Go Go.RowKit Go.ChangeAt Go.ChangeShapes Go.WideShapes

set_option maxRecDepth 100000 in
set_option maxHeartbeats 3200000 in
theorem implParseF (ss : List ByteArray) (va : Option Addr) (vca : Nat) (s : ByteArray) (w : World) (h : GuessW ss va w) (hs : s.size ≤ 1048576) (hl : ss.length ≤ maxLen) (hz : ∀ s ∈ ss, s.size ≤ maxLen) :
    Calls Tryz.prog 8 #[.slice va ss.length vca, .string s] w (ParseEnd ss s w) := by
  obtain ⟨W0, hW0, hb0, br0⟩ := one_boxL5 w [.int .i64 0, .int .i64 0, .int .i64 0, .int .i64 0, .slice none 0 0] 27
  simp only [List.toArray] at hW0
  have h0 := h.keeps hb0
  have HG := Lib.hid (implGuessFormula ss va vca s W0 h0 hl hs)
  have HH := Lib.hid h
  have HW0 := Lib.hid hW0
  have HB0 := Lib.hid hb0
  have hlt0 := br0.lt
  clear hW0 h0 h hb0
  go_enter Tryz.func8, Tryz.ntmps8
  go_wp2_with fail
  rw [HW0.out]
  refine HG.out.mono ?_
  rintro e w1 ⟨t, rfl, he, hm, hb1⟩
  have HE := Lib.hid he
  have hz1 := hb1.size
  have hb01 := HB0.out.trans (hb1.mono HB0.out.size)
  have X1 := br0.below hb1
  have x0 := X1.c 0 _ rfl
  have x1 := X1.c 1 _ rfl
  have x2 := X1.c 2 _ rfl
  have x3 := X1.c 3 _ rfl
  have x4 := X1.c 4 _ rfl
  have xf := X1.f
  have xl := X1.lt
  have xne : ¬ w.heap.size = w1.heap.size := by omega
  clear he hb1
  by_cases hse : s = ⟨#[]⟩
  · subst hse
    have HEND := Lib.hid (zero_end (ss := ss) (s := ⟨#[]⟩) ((zero_sets hb01).alloc (by simp; omega) (.cells #[.int .i64 t.kd, .int .i64 t.k, .int .i64 t.u, .int .i64 t.v, .slice t.a t.args.length t.cap] 27)) (.inl rfl))
    clear X1 hb01 hm
    go_wp2_with fail
    exact bodyPost_ret (v := .tuple #[.agg #[.int .i64 0, .int .i64 0, .int .i64 0, .int .i64 0, .slice none 0 0], .bool false]) (by simp [results, Tryz.results8, go_sem, x0, x1, x2, x3, x4, xl]) rfl HEND.out
  · have hal := (Below.refl w1.heap.size w1).alloc (Nat.le_refl _) (.cells #[.int .i64 t.kd, .int .i64 t.k, .int .i64 t.u, .int .i64 t.v, .slice t.a t.args.length t.cap] 27)
    have bx := BoxL.new w1 t.cells 27
    obtain ⟨W4, hW4⟩ : ∃ V, w1.alloc (.cells #[.int .i64 t.kd, .int .i64 t.k, .int .i64 t.u, .int .i64 t.v, .slice t.a t.args.length t.cap] 27) = V := ⟨_, rfl⟩
    have bx4 : BoxL W4 w1.heap.size t.cells := by rw [← hW4]; exact bx
    rw [hW4] at hal
    have X4 := X1.below hal
    have M4 := Ft.Mine.below hm hal
    have hb4 := hb01.trans (hal.mono (by omega))
    have hz4 := hal.size
    have HK4 := Lib.hid (HH.out.keeps hb4)
    have BB := Lib.hid (show Below w.heap.size w W4 ∧ w.heap.size < W4.heap.size from ⟨hb4, by omega⟩)
    have HX4 := Lib.hid (And.intro X4 (And.intro bx4 M4))
    have HW4 := Lib.hid hW4
    have hnl : ¬ s.toList = [] := fun h => hse (text_inj (by rw [ByteArray.toList_eq] at h; exact h))
    have hem : s.toList.isEmpty = false := by
      cases h : s.toList with
      | nil => exact (hnl h).elim
      | cons _ _ => rfl
    have hcmp : (s.toList == []) = false := beq_eq_false_iff_ne.2 hnl
    clear bx hal hW4 X1 hm hb01 hb4 x0 x1 x2 x3 x4 xf X4 bx4 M4
    go_wp2_with fail
    rw [HW4.out]
    clear HW4
    refine (implFormulaText ss va vca t W4 hl hz HK4.out.row (Ft.Mine.solid HX4.out.2.2 (by omega) (by rw [HE.out]; exact Nat.le_trans (guess_size ss _) (by decide))) HK4.out.words).mono ?_
    rintro e w5 ⟨rfl, hb5⟩
    have X5 := HX4.out.1.below hb5
    have bx5 := HX4.out.2.1.below hb5
    have M5 := Ft.Mine.below HX4.out.2.2 hb5
    have hb05 := BB.out.1.trans (hb5.mono BB.out.1.size)
    have hz5 := hb5.size
    obtain ⟨T, hT⟩ : ∃ T, fmText ss t.er = T := ⟨_, rfl⟩
    rw [hT]
    have x0 := X5.c 0 _ rfl
    have x1 := X5.c 1 _ rfl
    have x2 := X5.c 2 _ rfl
    have x3 := X5.c 3 _ rfl
    have x4 := X5.c 4 _ rfl
    have xf := X5.f
    have xl := X5.lt
    have c0 := bx5.c 0 _ rfl
    have c1 := bx5.c 1 _ rfl
    have c2 := bx5.c 2 _ rfl
    have c3 := bx5.c 3 _ rfl
    have c4 := bx5.c 4 _ rfl
    by_cases hts : T = s
    · subst hts
      have HEND := Lib.hid (full_end (s := T) hb05 (by omega) (by omega) M5 hse hT)
      clear X5 bx5 M5 hb05 hT hb5
      go_wp2_with fail
      exact bodyPost_ret (v := .tuple #[.agg #[.int .i64 t.kd, .int .i64 t.k, .int .i64 t.u, .int .i64 t.v, .slice t.a t.args.length t.cap], .bool true]) (by simp [results, Tryz.results8, go_sem, x0, x1, x2, x3, x4]) rfl HEND.out
    · have HEND := Lib.hid (zero_end (ss := ss) (s := s) (zero_sets hb05) (.inr fun f hf => hts (by
        have h1 := guess_right hse hf
        have h2 : t.er = f := HE.out.trans h1
        rw [← hT, h2]
        exact hf)))
      have htl : ¬ T.toList = s.toList := fun h => hts (text_inj (by rw [ByteArray.toList_eq, ByteArray.toList_eq] at h; exact h))
      have htb : (T.toList == s.toList) = false := by simpa using htl
      clear X5 bx5 M5 hb05 hT hb5
      go_wp2_with fail
      exact bodyPost_ret (v := .tuple #[.agg #[.int .i64 0, .int .i64 0, .int .i64 0, .int .i64 0, .slice none 0 0], .bool false]) (by simp [results, Tryz.results8, go_sem, x0, x1, x2, x3, x4]) rfl HEND.out
end Go.Proofs.YtplchhahjmoodaaGreatDoor
