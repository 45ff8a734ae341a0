/-
  The program's tests of a heap; the actions that they make.
-/
import Derived.Lib.QuietBelow
import Derived.Test.YtpmmjaceehlpiaaGreatDoorF04
namespace Go.Proofs.YtpmmjaceehlpiaaGreatDoor
open Go Go.RowKit Go.ChangeShapes Go.WideShapes Go.ChangeAt Go.Sort

/-- A question about a heap. -/
theorem implIsNull {pa : Nat} {a b : Option Addr} {ca cb : Nat} {vs zs : List Int} (y : Int) {w : World} (h : HeapAt w a b vs zs) (hp : pa < vs.length) :
    Calls Tryz.prog 156 #[heV a vs.length ca b zs.length cb, .int .i64 pa, .int .i64 y] w (GaveX (.bool (decide (vs.getD pa (-1) = -1))) w) := by
  rw [getD_cell hp]
  obtain ⟨g, o, rfl, hg, hc⟩ := h.v pa _ (intVals_at vs pa hp)
  have n0 : ¬ w.heap.size = g := by omega
  go_enter Tryz.func156, Tryz.ntmps156
  go_wp2
  go_ret
  exact ⟨rfl, (Below.refl _ _).alloc (Nat.le_refl _) _⟩
theorem implAreSame {pa pb : Nat} {a b : Option Addr} {ca cb : Nat} {vs zs : List Int} {w : World} (h : HeapAt w a b vs zs) (hp : pa < vs.length) (hq : pb < vs.length) :
    Calls Tryz.prog 157 #[heV a vs.length ca b zs.length cb, .int .i64 pa, .int .i64 pb] w (GaveX (.bool (decide (vs.getD pa (-1) = vs.getD pb (-1)))) w) := by
  rw [getD_cell hp, getD_cell hq]
  obtain ⟨g, o, rfl, hg, hc⟩ := h.v pa _ (intVals_at vs pa hp)
  obtain ⟨g', o', e, hg', hc'⟩ := h.v pb _ (intVals_at vs pb hq)
  obtain ⟨rfl, rfl⟩ : g = g' ∧ o = o' := by
    injection e with e
    injection e with e1 e2
    exact ⟨e1, e2⟩
  have n0 : ¬ w.heap.size = g := by omega
  go_enter Tryz.func157, Tryz.ntmps157
  go_wp2
  go_region
  all_goals
    go_wp2
    go_ret
    exact ⟨rfl, ((Below.refl _ _).alloc (Nat.le_refl _) _).drew⟩

/-- The cells of a test's action: the question, what is wanted. -/
structure CondAt (w : World) (c d : Nat) (f : FuncId) (t : Bool) : Prop where
  q : w.cell? ⟨c, 0, none⟩ = some (.func (.func f) #[] #[])
  t : w.cell? ⟨d, 0, none⟩ = some (.bool t)
  lq : c < w.heap.size
  lt : d < w.heap.size
set_option maxHeartbeats 800000 in
theorem implTestNull {lo hi : Nat} {a b : Option Addr} {ca cb : Nat} {vs zs : List Int} (x y : Int) {c d : Nat} {t r : Bool} {w : World} (h : HeapIn lo hi w a ca b cb (intVals vs) (intVals zs)) (hc : CondAt w c d 156 t)
    (hf : ∀ W, HeapAt W a b vs zs → Calls Tryz.prog 156 #[heV a vs.length ca b zs.length cb, .int .i64 x, .int .i64 y] W (GaveX (.bool r) W)) :
    Calls Tryz.prog 165 #[heV a vs.length ca b zs.length cb, .int .i64 x, .int .i64 y, .pointer (some ⟨c, 0, none⟩), .pointer (some ⟨d, 0, none⟩)] w (Acted lo hi (blocksH a b vs.length ca zs.length cb) (if r = t then (0, vs, zs) else badC 1) w) := by
  obtain ⟨q0, t0, lq, lt⟩ := hc
  have hr := h.rows
  by_cases hrt : r = t
  · rw [if_pos hrt]
    subst hrt
    have hrr : (r != r) = false := by simp
    go_enter Tryz.func165, Tryz.ntmps165
    go_wp2
    obtain ⟨W0, hW0, hb0, bn0, bp0⟩ := two_boxL w [.slice a vs.length ca, .slice b zs.length cb] [.slice none 0 0, .slice none 0 0] 30 30
    rw [show ((w.alloc (.cells #[.slice a vs.length ca, .slice b zs.length cb] 30)).alloc (.cells #[.slice none 0 0, .slice none 0 0] 30)) = W0 from hW0]
    clear hW0
    have c0 := fun d os => cell_regrown (bn0.c 0 _ rfl) d os
    have c1 := fun d os => cell_regrown (bn0.c 1 _ rfl) d os
    have c2 := fun d os => cell_regrown ((hb0.cell (p := ⟨c, 0, none⟩) lq).trans q0) d os
    have c3 := fun e os => cell_regrown ((hb0.cell (p := ⟨d, 0, none⟩) lt).trans t0) e os
    have hrow := hr.below hb0 (Nat.le_refl _)
    have HC := Lib.hid (show ∀ e os, Calls Tryz.prog 156 #[heV a vs.length ca b zs.length cb, .int .i64 x, .int .i64 y] (Go.Sort.grow (redrawn W0 e) os) (GaveX (.bool r) (Go.Sort.grow (redrawn W0 e) os)) from fun e os => hf _ (hrow.again e os))
    clear hf q0 t0
    refine wp_region_quiet_below (by kernel_rfl) (by kernel_rfl) ?_
    repeat (go_big_quiet_step (first | (go_at_call 156; with_reducible exact at_again (HC.out _ _))))
    refine wpQuiet_nil ?_
    rintro w1 ⟨⟨e, os⟩, rfl⟩
    have hb1 := below_regrown W0 e os
    have T1 := TurnB.of_below (lo := lo) (hi := hi) (S := (blocksH a b vs.length ca zs.length cb)) (hb0.trans (hb1.mono hb0.size))
    have bn1 := bn0.below hb1
    have bp1 := bp0.below hb1
    have h1 := h.turn (lo' := hi) (hi' := hi) (Turn.of_below (hb0.trans (hb1.mono hb0.size))) (.inl (Nat.le_refl _))
    have hbl := h.blocks
    have hhi := h.v.1
    clear c0 c1 c2 c3 HC bn0 bp0
    generalize Go.Sort.grow (redrawn W0 e) os = W1 at *
    have d0 := bn1.c 0 _ rfl
    have d1 := bn1.c 1 _ rfl
    have d2 := bp1.c 0 _ rfl
    have d3 := bp1.c 1 _ rfl
    have df := bp1.f
    have hs1 := bp1.lt
    go_wp2
    refine bodyPost_ret (v := .tuple #[heV a vs.length ca b zs.length cb, .int .i64 0]) (by simp [results, Tryz.results165, go_sem, d2, d3]) rfl ?_
    refine acted_of rfl rfl ?_ ?_
    · have hs : ((W1.setCell ⟨w.heap.size + 1, 0, none⟩ (.slice a vs.length ca)).setCell ⟨w.heap.size + 1, 1, none⟩ (.slice b zs.length cb)).heap.size = W1.heap.size := by simp
      rw [hs]
      exact ((h1.setNot (Q := w.heap.size + 1) fun k hk => by have := hbl k hk; omega).setNot (Q := w.heap.size + 1) fun k hk => by have := hbl k hk; omega).mono (Nat.le_refl _) (by have := h1.v.1; omega) (by simp)
    · repeat (first | with_reducible exact T1 | refine TurnB.setNew ?_ (by omega))
  · rw [if_neg hrt]
    have hrr : (r == t) = false := by simpa using hrt
    go_enter Tryz.func165, Tryz.ntmps165
    go_wp2
    obtain ⟨W0, hW0, hb0, bn0, bp0⟩ := two_boxL w [.slice a vs.length ca, .slice b zs.length cb] [.slice none 0 0, .slice none 0 0] 30 30
    rw [show ((w.alloc (.cells #[.slice a vs.length ca, .slice b zs.length cb] 30)).alloc (.cells #[.slice none 0 0, .slice none 0 0] 30)) = W0 from hW0]
    clear hW0
    have c0 := fun d os => cell_regrown (bn0.c 0 _ rfl) d os
    have c1 := fun d os => cell_regrown (bn0.c 1 _ rfl) d os
    have c2 := fun d os => cell_regrown ((hb0.cell (p := ⟨c, 0, none⟩) lq).trans q0) d os
    have c3 := fun e os => cell_regrown ((hb0.cell (p := ⟨d, 0, none⟩) lt).trans t0) e os
    have hrow := hr.below hb0 (Nat.le_refl _)
    have HC := Lib.hid (show ∀ e os, Calls Tryz.prog 156 #[heV a vs.length ca b zs.length cb, .int .i64 x, .int .i64 y] (Go.Sort.grow (redrawn W0 e) os) (GaveX (.bool r) (Go.Sort.grow (redrawn W0 e) os)) from fun e os => hf _ (hrow.again e os))
    clear hf q0 t0
    refine wp_region_quiet_below (by kernel_rfl) (by kernel_rfl) ?_
    repeat (go_big_quiet_step (first | (go_at_call 156; with_reducible exact at_again (HC.out _ _))))
    refine wpQuiet_nil ?_
    rintro w1 ⟨⟨e, os⟩, rfl⟩
    have hb1 := below_regrown W0 e os
    have T1 := TurnB.of_below (lo := lo) (hi := hi) (S := (blocksH a b vs.length ca zs.length cb)) (hb0.trans (hb1.mono hb0.size))
    have bn1 := bn0.below hb1
    have bp1 := bp0.below hb1
    have h1 := h.turn (lo' := hi) (hi' := hi) (Turn.of_below (hb0.trans (hb1.mono hb0.size))) (.inl (Nat.le_refl _))
    have hbl := h.blocks
    have hhi := h.v.1
    clear c0 c1 c2 c3 HC bn0 bp0
    generalize Go.Sort.grow (redrawn W0 e) os = W1 at *
    have d0 := bn1.c 0 _ rfl
    have d1 := bn1.c 1 _ rfl
    have d2 := bp1.c 0 _ rfl
    have d3 := bp1.c 1 _ rfl
    have df := bp1.f
    have hs1 := bp1.lt
    go_wp2
    refine bodyPost_ret (v := .tuple #[heV none 0 0 none 0 0, .int .i64 1]) (by simp [results, Tryz.results165, go_sem, d2, d3]) rfl ?_
    refine acted_bad ?_
    repeat (first | with_reducible exact T1 | refine TurnB.setNew ?_ (by omega))
set_option maxHeartbeats 800000 in
theorem implTestSame {lo hi : Nat} {a b : Option Addr} {ca cb : Nat} {vs zs : List Int} (x y : Int) {c d : Nat} {t r : Bool} {w : World} (h : HeapIn lo hi w a ca b cb (intVals vs) (intVals zs)) (hc : CondAt w c d 157 t)
    (hf : ∀ W, HeapAt W a b vs zs → Calls Tryz.prog 157 #[heV a vs.length ca b zs.length cb, .int .i64 x, .int .i64 y] W (GaveX (.bool r) W)) :
    Calls Tryz.prog 165 #[heV a vs.length ca b zs.length cb, .int .i64 x, .int .i64 y, .pointer (some ⟨c, 0, none⟩), .pointer (some ⟨d, 0, none⟩)] w (Acted lo hi (blocksH a b vs.length ca zs.length cb) (if r = t then (0, vs, zs) else badC 1) w) := by
  obtain ⟨q0, t0, lq, lt⟩ := hc
  have hr := h.rows
  by_cases hrt : r = t
  · rw [if_pos hrt]
    subst hrt
    have hrr : (r != r) = false := by simp
    go_enter Tryz.func165, Tryz.ntmps165
    go_wp2
    obtain ⟨W0, hW0, hb0, bn0, bp0⟩ := two_boxL w [.slice a vs.length ca, .slice b zs.length cb] [.slice none 0 0, .slice none 0 0] 30 30
    rw [show ((w.alloc (.cells #[.slice a vs.length ca, .slice b zs.length cb] 30)).alloc (.cells #[.slice none 0 0, .slice none 0 0] 30)) = W0 from hW0]
    clear hW0
    have c0 := fun d os => cell_regrown (bn0.c 0 _ rfl) d os
    have c1 := fun d os => cell_regrown (bn0.c 1 _ rfl) d os
    have c2 := fun d os => cell_regrown ((hb0.cell (p := ⟨c, 0, none⟩) lq).trans q0) d os
    have c3 := fun e os => cell_regrown ((hb0.cell (p := ⟨d, 0, none⟩) lt).trans t0) e os
    have hrow := hr.below hb0 (Nat.le_refl _)
    have HC := Lib.hid (show ∀ e os, Calls Tryz.prog 157 #[heV a vs.length ca b zs.length cb, .int .i64 x, .int .i64 y] (Go.Sort.grow (redrawn W0 e) os) (GaveX (.bool r) (Go.Sort.grow (redrawn W0 e) os)) from fun e os => hf _ (hrow.again e os))
    clear hf q0 t0
    refine wp_region_quiet_below (by kernel_rfl) (by kernel_rfl) ?_
    repeat (go_big_quiet_step (first | (go_at_call 157; with_reducible exact at_again (HC.out _ _))))
    refine wpQuiet_nil ?_
    rintro w1 ⟨⟨e, os⟩, rfl⟩
    have hb1 := below_regrown W0 e os
    have T1 := TurnB.of_below (lo := lo) (hi := hi) (S := (blocksH a b vs.length ca zs.length cb)) (hb0.trans (hb1.mono hb0.size))
    have bn1 := bn0.below hb1
    have bp1 := bp0.below hb1
    have h1 := h.turn (lo' := hi) (hi' := hi) (Turn.of_below (hb0.trans (hb1.mono hb0.size))) (.inl (Nat.le_refl _))
    have hbl := h.blocks
    have hhi := h.v.1
    clear c0 c1 c2 c3 HC bn0 bp0
    generalize Go.Sort.grow (redrawn W0 e) os = W1 at *
    have d0 := bn1.c 0 _ rfl
    have d1 := bn1.c 1 _ rfl
    have d2 := bp1.c 0 _ rfl
    have d3 := bp1.c 1 _ rfl
    have df := bp1.f
    have hs1 := bp1.lt
    go_wp2
    refine bodyPost_ret (v := .tuple #[heV a vs.length ca b zs.length cb, .int .i64 0]) (by simp [results, Tryz.results165, go_sem, d2, d3]) rfl ?_
    refine acted_of rfl rfl ?_ ?_
    · have hs : ((W1.setCell ⟨w.heap.size + 1, 0, none⟩ (.slice a vs.length ca)).setCell ⟨w.heap.size + 1, 1, none⟩ (.slice b zs.length cb)).heap.size = W1.heap.size := by simp
      rw [hs]
      exact ((h1.setNot (Q := w.heap.size + 1) fun k hk => by have := hbl k hk; omega).setNot (Q := w.heap.size + 1) fun k hk => by have := hbl k hk; omega).mono (Nat.le_refl _) (by have := h1.v.1; omega) (by simp)
    · repeat (first | with_reducible exact T1 | refine TurnB.setNew ?_ (by omega))
  · rw [if_neg hrt]
    have hrr : (r == t) = false := by simpa using hrt
    go_enter Tryz.func165, Tryz.ntmps165
    go_wp2
    obtain ⟨W0, hW0, hb0, bn0, bp0⟩ := two_boxL w [.slice a vs.length ca, .slice b zs.length cb] [.slice none 0 0, .slice none 0 0] 30 30
    rw [show ((w.alloc (.cells #[.slice a vs.length ca, .slice b zs.length cb] 30)).alloc (.cells #[.slice none 0 0, .slice none 0 0] 30)) = W0 from hW0]
    clear hW0
    have c0 := fun d os => cell_regrown (bn0.c 0 _ rfl) d os
    have c1 := fun d os => cell_regrown (bn0.c 1 _ rfl) d os
    have c2 := fun d os => cell_regrown ((hb0.cell (p := ⟨c, 0, none⟩) lq).trans q0) d os
    have c3 := fun e os => cell_regrown ((hb0.cell (p := ⟨d, 0, none⟩) lt).trans t0) e os
    have hrow := hr.below hb0 (Nat.le_refl _)
    have HC := Lib.hid (show ∀ e os, Calls Tryz.prog 157 #[heV a vs.length ca b zs.length cb, .int .i64 x, .int .i64 y] (Go.Sort.grow (redrawn W0 e) os) (GaveX (.bool r) (Go.Sort.grow (redrawn W0 e) os)) from fun e os => hf _ (hrow.again e os))
    clear hf q0 t0
    refine wp_region_quiet_below (by kernel_rfl) (by kernel_rfl) ?_
    repeat (go_big_quiet_step (first | (go_at_call 157; with_reducible exact at_again (HC.out _ _))))
    refine wpQuiet_nil ?_
    rintro w1 ⟨⟨e, os⟩, rfl⟩
    have hb1 := below_regrown W0 e os
    have T1 := TurnB.of_below (lo := lo) (hi := hi) (S := (blocksH a b vs.length ca zs.length cb)) (hb0.trans (hb1.mono hb0.size))
    have bn1 := bn0.below hb1
    have bp1 := bp0.below hb1
    have h1 := h.turn (lo' := hi) (hi' := hi) (Turn.of_below (hb0.trans (hb1.mono hb0.size))) (.inl (Nat.le_refl _))
    have hbl := h.blocks
    have hhi := h.v.1
    clear c0 c1 c2 c3 HC bn0 bp0
    generalize Go.Sort.grow (redrawn W0 e) os = W1 at *
    have d0 := bn1.c 0 _ rfl
    have d1 := bn1.c 1 _ rfl
    have d2 := bp1.c 0 _ rfl
    have d3 := bp1.c 1 _ rfl
    have df := bp1.f
    have hs1 := bp1.lt
    go_wp2
    refine bodyPost_ret (v := .tuple #[heV none 0 0 none 0 0, .int .i64 1]) (by simp [results, Tryz.results165, go_sem, d2, d3]) rfl ?_
    refine acted_bad ?_
    repeat (first | with_reducible exact T1 | refine TurnB.setNew ?_ (by omega))
end Go.Proofs.YtpmmjaceehlpiaaGreatDoor
