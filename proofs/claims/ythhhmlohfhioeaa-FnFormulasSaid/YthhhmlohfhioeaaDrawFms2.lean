/-
  The draws of the laws of formulas: one formula, two formulas, a kind. (Printed by wip/tools/gen_draw_fms2.py.)
-/
import Derived.Test.YthhhmlohfhioeaaDrawFms
namespace Go.Proofs.Ythhhmlohfhioeaa
open Go Go.RowKit Go.ChangeAt Go.ChangeShapes Go.WideShapes

def SomeFm (w : World) (e : Ending) (w' : World) : Prop := ∃ t : Ft, e = .returned t.val ∧ t.er.size ≤ 64 ∧ Solid w' t ∧ Below w.heap.size w w'
set_option maxRecDepth 100000 in
set_option maxHeartbeats 1600000 in
theorem drawFreeFm (a : Option Addr) (n cap : Nat) (w : World) (hn : n ≤ 1099511627776) (hcode : Code8 w w.heap.size n a) : Calls Try.prog 10 #[.slice a n cap] w (SomeFm w) := by
  obtain ⟨W0, hW0⟩ : ∃ W, w.alloc (.cells #[.int .i64 0, .int .i64 0, .int .i64 0, .int .i64 0, .slice none 0 0] 26) = W := ⟨_, rfl⟩
  have hb0 : Below w.heap.size w W0 := by rw [← hW0]; exact (Below.refl _ _).alloc (Nat.le_refl _) _
  have bn0 : BoxL W0 w.heap.size zeroCells := by rw [← hW0]; exact BoxL.new w zeroCells _
  have HW0 := Lib.hid hW0
  have hs0 := bn0.lt
  clear hW0
  go_enter Try.func10, Try.ntmps10
  go_wp2_with fail
  rw [HW0.out]
  refine (drawNew a n cap _ hn ((hcode.keeps fun p hp => hb0.cell hp).grow hb0.size)).mono ?_
  rintro e w1 ⟨g, rfl, hg, hc1, hb1⟩
  have bn1 := bn0.below hb1
  have hB1 := hb0.trans (hb1.mono hb0.size)
  have hz1 := hb1.size
  clear bn0 HW0
  go_wp2_with fail
  refine (drawBentTree g _ hc1).mono ?_
  rintro e w2 ⟨t, rfl, hts, hdg, htm⟩
  have hw2 := hdg.grown.size
  have bn2 := bn1.turn (turn_drawn hdg.grown) (.inl (by omega))
  have HE := Lib.hid (num_end (bentBelow hB1 hdg (by omega)) rfl htm (by omega) (show t.er.size ≤ 64 by omega) (.int .i64 t.kd) (.int .i64 t.k) (.int .i64 t.u) (.int .i64 t.v) (.slice t.a t.args.length t.cap))
  have n0 := bn2.c 0 _ rfl
  have n1 := bn2.c 1 _ rfl
  have n2 := bn2.c 2 _ rfl
  have n3 := bn2.c 3 _ rfl
  have n4 := bn2.c 4 _ rfl
  have nf := bn2.f
  have nl := bn2.lt
  have HTS := Lib.hid (show t.er.size ≤ 64 by omega)
  clear bn1 bn2 hdg htm hts hc1 hB1
  go_wp2_with fail
  exact bodyPost_ret (v := t.val) (by simp [results, Try.results10, go_sem, n0, n1, n2, n3, n4]) rfl ⟨t, rfl, HTS.out, HE.out⟩

/-- A kind, drawn. -/
def SomeKind (w : World) (e : Ending) (w' : World) : Prop := ∃ n : Int, e = .returned (.int .i64 n) ∧ (-1 ≤ n ∧ n ≤ 15) ∧ Below w.heap.size w w'
theorem drawKind (a : Option Addr) (n cap : Nat) (w : World) (hn : n ≤ 1099511627776) (hcode : Code8 w w.heap.size n a) : Calls Try.prog 11 #[.slice a n cap] w (SomeKind w) := by
  go_enter Try.func11, Try.ntmps11
  go_wp2_with fail
  refine (drawNew a n cap _ hn hcode).mono ?_
  rintro e w1 ⟨g, rfl, hg, hc1, hb1⟩
  go_wp2_with fail
  refine (drawBelow g 16 _ (by omega) (by omega) hc1).mono ?_
  rintro e w2 ⟨x, hx, rfl, hc2, hw2⟩
  have hB2 := below_only hb1 hw2 hb1.size hg
  have hwr : IntKind.i64.wrap ((x : Int) - 1) = (x : Int) - 1 := wrap_less (by omega)
  go_wp2_with fail
  go_ret
  exact ⟨(x : Int) - 1, rfl, by omega, hB2⟩

/-- Two formulas, drawn. -/
def SomeFms (w : World) (e : Ending) (w' : World) : Prop := ∃ s t : Ft, e = .returned (.tuple #[s.val, t.val]) ∧ (s.er.size ≤ 64 ∧ t.er.size ≤ 64) ∧ (Solid w' s ∧ Solid w' t) ∧ Below w.heap.size w w'
theorem fms_end {w W : World} {r r2 lo hi lo' hi' : Nat} {s t : Ft} (hB : Below w.heap.size w W) (hr : r = w.heap.size) (hr2 : r2 = w.heap.size + 1) (hm : s.Mine W lo hi) (hm' : t.Mine W lo' hi') (hl : r2 < lo) (hl' : r2 < lo') (hs : s.er.size ≤ 64) (ht : t.er.size ≤ 64) :
    (Solid ((((((((((W.setCell ⟨r, 0, none⟩ (.int .i64 s.kd)).setCell ⟨r, 1, none⟩ (.int .i64 s.k)).setCell ⟨r, 2, none⟩ (.int .i64 s.u)).setCell ⟨r, 3, none⟩ (.int .i64 s.v)).setCell ⟨r, 4, none⟩ (.slice s.a s.args.length s.cap)).setCell ⟨r2, 0, none⟩ (.int .i64 t.kd)).setCell ⟨r2, 1, none⟩ (.int .i64 t.k)).setCell ⟨r2, 2, none⟩ (.int .i64 t.u)).setCell ⟨r2, 3, none⟩ (.int .i64 t.v)).setCell ⟨r2, 4, none⟩ (.slice t.a t.args.length t.cap)) s ∧ Solid ((((((((((W.setCell ⟨r, 0, none⟩ (.int .i64 s.kd)).setCell ⟨r, 1, none⟩ (.int .i64 s.k)).setCell ⟨r, 2, none⟩ (.int .i64 s.u)).setCell ⟨r, 3, none⟩ (.int .i64 s.v)).setCell ⟨r, 4, none⟩ (.slice s.a s.args.length s.cap)).setCell ⟨r2, 0, none⟩ (.int .i64 t.kd)).setCell ⟨r2, 1, none⟩ (.int .i64 t.k)).setCell ⟨r2, 2, none⟩ (.int .i64 t.u)).setCell ⟨r2, 3, none⟩ (.int .i64 t.v)).setCell ⟨r2, 4, none⟩ (.slice t.a t.args.length t.cap)) t) ∧ Below w.heap.size w ((((((((((W.setCell ⟨r, 0, none⟩ (.int .i64 s.kd)).setCell ⟨r, 1, none⟩ (.int .i64 s.k)).setCell ⟨r, 2, none⟩ (.int .i64 s.u)).setCell ⟨r, 3, none⟩ (.int .i64 s.v)).setCell ⟨r, 4, none⟩ (.slice s.a s.args.length s.cap)).setCell ⟨r2, 0, none⟩ (.int .i64 t.kd)).setCell ⟨r2, 1, none⟩ (.int .i64 t.k)).setCell ⟨r2, 2, none⟩ (.int .i64 t.u)).setCell ⟨r2, 3, none⟩ (.int .i64 t.v)).setCell ⟨r2, 4, none⟩ (.slice t.a t.args.length t.cap)) := by
  subst hr
  subst hr2
  have hT1 : ∀ (V : World) (i : Nat) (u : Value), Turn w.heap.size (w.heap.size + 2) V (V.setCell ⟨w.heap.size, i, none⟩ u) := fun V i u => (turn_set V w.heap.size i u).mono (Nat.le_refl _) (by omega)
  have hT2 : ∀ (V : World) (i : Nat) (u : Value), Turn w.heap.size (w.heap.size + 2) V (V.setCell ⟨w.heap.size + 1, i, none⟩ u) := fun V i u => (turn_set V (w.heap.size + 1) i u).mono (by omega) (Nat.le_refl _)
  have hTT := ((((((((((hT1 W 0 (.int .i64 s.kd)).trans (hT1 _ 1 (.int .i64 s.k))).trans (hT1 _ 2 (.int .i64 s.u))).trans (hT1 _ 3 (.int .i64 s.v))).trans (hT1 _ 4 (.slice s.a s.args.length s.cap))).trans (hT2 _ 0 (.int .i64 t.kd))).trans (hT2 _ 1 (.int .i64 t.k))).trans (hT2 _ 2 (.int .i64 t.u))).trans (hT2 _ 3 (.int .i64 t.v))).trans (hT2 _ 4 (.slice t.a t.args.length t.cap)))
  have h1 := Ft.Mine.turn hTT s hm (.inl (by omega))
  have h2 := Ft.Mine.turn hTT t hm' (.inl (by omega))
  exact ⟨⟨h1.solid ((Ft.mine_iff s).1 h1).1.1 (by omega), h2.solid ((Ft.mine_iff t).1 h2).1.1 (by omega)⟩, Turn.below hB hTT (Nat.le_refl _) hB.size⟩
set_option maxRecDepth 100000 in
set_option maxHeartbeats 3200000 in
theorem drawEqualFm (a : Option Addr) (n cap : Nat) (w : World) (hn : n ≤ 1099511627776) (hcode : Code8 w w.heap.size n a) : Calls Try.prog 9 #[.slice a n cap] w (SomeFms w) := by
  obtain ⟨W0, hW0⟩ : ∃ W, (w.alloc (.cells #[.int .i64 0, .int .i64 0, .int .i64 0, .int .i64 0, .slice none 0 0] 26)).alloc (.cells #[.int .i64 0, .int .i64 0, .int .i64 0, .int .i64 0, .slice none 0 0] 26) = W := ⟨_, rfl⟩
  have h1 := two_boxL w zeroCells zeroCells 26 26
  obtain ⟨hb0, bn0, bm0⟩ : Below w.heap.size w W0 ∧ BoxL W0 w.heap.size zeroCells ∧ BoxL W0 (w.heap.size + 1) zeroCells := by
    obtain ⟨W, e, h⟩ := h1
    have : W = W0 := by rw [← e, ← hW0]; rfl
    exact this ▸ h
  clear h1
  have HW0 := Lib.hid hW0
  have hs0 := bm0.lt
  clear hW0
  go_enter Try.func9, Try.ntmps9
  go_wp2_with fail
  rw [HW0.out]
  refine (drawNew a n cap _ hn ((hcode.keeps fun p hp => hb0.cell hp).grow hb0.size)).mono ?_
  rintro e w1 ⟨g, rfl, hg, hc1, hb1⟩
  have bn1 := bn0.below hb1
  have bm1 := bm0.below hb1
  have hB1 := hb0.trans (hb1.mono hb0.size)
  have hz1 := hb1.size
  clear bn0 bm0 HW0
  go_wp2_with fail
  refine (drawBentTree g _ hc1).mono ?_
  rintro e w2 ⟨t, rfl, hts, hdg, htm⟩
  have hw2 := hdg.grown.size
  have hg1 := hc1.lt
  have bn2 := bn1.turn (turn_drawn hdg.grown) (.inl (by omega))
  have bm2 := bm1.turn (turn_drawn hdg.grown) (.inl (by omega))
  obtain ⟨W3, hW3⟩ : ∃ W, w2.alloc (.cells #[.int .i64 t.kd, .int .i64 t.k, .int .i64 t.u, .int .i64 t.v, .slice t.a t.args.length t.cap] 26) = W := ⟨_, rfl⟩
  have hb3 : Below w2.heap.size w2 W3 := by rw [← hW3]; exact (Below.refl _ _).alloc (Nat.le_refl _) _
  have bx3 : BoxL W3 w2.heap.size t.cells := by rw [← hW3]; exact BoxL.new w2 t.cells _
  have D3 := hdg.below hb3
  have bn3 := bn2.below hb3
  have bm3 := bm2.below hb3
  have M3 := htm.below hb3
  have hs3 := bx3.lt
  have HW3 := Lib.hid hW3
  clear hW3 bn1 bn2 bm1 bm2 hdg htm hc1 hb3
  go_wp2_with fail
  rw [HW3.out]
  refine (drawOnce g 2 _ (by omega) (by omega) D3.cur).mono ?_
  rintro e w4 ⟨fl, rfl, hc4, hw4⟩
  have D4 := D3.draw hc4 hw4
  have bn4 := bn3.turn (turn_drawn hw4) (.inl (by omega))
  have bm4 := bm3.turn (turn_drawn hw4) (.inl (by omega))
  have bx4 := bx3.turn (turn_drawn hw4) (.inr (by omega))
  have M4 := Ft.Mine.turn (turn_drawn hw4) t M3 (.inl (by omega))
  have hz4 := hw4.size
  have hB1' := Lib.hid hB1
  have HTS := Lib.hid (show t.er.size ≤ 64 by omega)
  clear D3 bn3 bm3 bx3 M3 hc4 hw4 HW3 hB1 hts
  generalize w2.heap.size = b at *
  have hal := (Below.refl w4.heap.size w4).drew
  have DD := Lib.hid (D4.below hal)
  have BN := Lib.hid (bn4.below hal)
  have BM := Lib.hid (bm4.below hal)
  have BX := Lib.hid (bx4.below hal)
  have MM := Lib.hid (M4.below hal)
  have x0 := BX.out.c 0 _ rfl
  have z0 := bx4.c 0 _ rfl
  have x1 := BX.out.c 1 _ rfl
  have z1 := bx4.c 1 _ rfl
  have x2 := BX.out.c 2 _ rfl
  have z2 := bx4.c 2 _ rfl
  have x3 := BX.out.c 3 _ rfl
  have z3 := bx4.c 3 _ rfl
  have x4 := BX.out.c 4 _ rfl
  have z4 := bx4.c 4 _ rfl
  have zl := bx4.lt
  clear D4 bn4 bm4 bx4 M4 hal
  cases fl with
  | true =>
    go_wp2_with fail
    go_region_law
      (first
        | (go_simp; go_at_call 35; (refine (copyMine t _ (by have := HTS.out; omega) (Ft.Mine.in_ t MM.out (by have := BX.out.lt; omega))).mono ?_); rintro e w7 ⟨s, rfl, hse, hsm, hb7⟩; have hB7 := (bentBelow hB1'.out DD.out (by omega)).trans (hb7.mono (bentBelow hB1'.out DD.out (by omega)).size); have bn7 := BN.out.below hb7; have bm7 := BM.out.below hb7; have bx7 := BX.out.below hb7; have M7 := MM.out.below hb7; have hz7 := hb7.size; have y0 := bx7.c 0 _ rfl; have n0 := bn7.c 0 _ rfl; have m0 := bm7.c 0 _ rfl; have y1 := bx7.c 1 _ rfl; have n1 := bn7.c 1 _ rfl; have m1 := bm7.c 1 _ rfl; have y2 := bx7.c 2 _ rfl; have n2 := bn7.c 2 _ rfl; have m2 := bm7.c 2 _ rfl; have y3 := bx7.c 3 _ rfl; have n3 := bn7.c 3 _ rfl; have m3 := bm7.c 3 _ rfl; have y4 := bx7.c 4 _ rfl; have n4 := bn7.c 4 _ rfl; have m4 := bm7.c 4 _ rfl; have nf := bn7.f; have nl := bn7.lt; have mf := bm7.f; have ml := bm7.lt))
    all_goals
      have hs64 : s.er.size ≤ 64 := by rw [hse]; exact HTS.out
      have HE := Lib.hid (fms_end hB7 rfl rfl M7 hsm (by omega) (by simp; omega) HTS.out hs64)
      have HS64 := Lib.hid hs64
      clear bn7 bm7 bx7 M7 hsm hB7 hb7 hs64 y0 y1 y2 y3 y4
      go_wp2_with fail
      exact bodyPost_ret (v := .tuple #[t.val, s.val]) (by simp [results, Try.results9, go_sem, n0, n1, n2, n3, n4, m0, m1, m2, m3, m4]) rfl ⟨t, s, rfl, ⟨HTS.out, HS64.out⟩, HE.out⟩
  | false =>
    go_wp2_with fail
    go_region_law
      (first
        | (go_simp; go_at_call 29; (refine (drawBentTree g _ DD.out.cur).mono ?_); rintro e w7 ⟨s, rfl, hse, hd7, hsm⟩; have D7 := DD.out.draw hd7.cur hd7.grown; have hB7 := bentBelow hB1'.out D7 (by omega); have bn7 := BN.out.turn (turn_drawn hd7.grown) (.inl (by omega)); have bm7 := BM.out.turn (turn_drawn hd7.grown) (.inl (by omega)); have bx7 := BX.out.turn (turn_drawn hd7.grown) (.inr (by omega)); have M7 := Ft.Mine.turn (turn_drawn hd7.grown) t MM.out (.inl (by omega)); have hz7 := hd7.grown.size; have y0 := bx7.c 0 _ rfl; have n0 := bn7.c 0 _ rfl; have m0 := bm7.c 0 _ rfl; have y1 := bx7.c 1 _ rfl; have n1 := bn7.c 1 _ rfl; have m1 := bm7.c 1 _ rfl; have y2 := bx7.c 2 _ rfl; have n2 := bn7.c 2 _ rfl; have m2 := bm7.c 2 _ rfl; have y3 := bx7.c 3 _ rfl; have n3 := bn7.c 3 _ rfl; have m3 := bm7.c 3 _ rfl; have y4 := bx7.c 4 _ rfl; have n4 := bn7.c 4 _ rfl; have m4 := bm7.c 4 _ rfl; have nf := bn7.f; have nl := bn7.lt; have mf := bm7.f; have ml := bm7.lt))
    all_goals
      have hs64 : s.er.size ≤ 64 := by omega
      have HE := Lib.hid (fms_end hB7 rfl rfl M7 hsm (by omega) (by simp; omega) HTS.out hs64)
      have HS64 := Lib.hid hs64
      clear bn7 bm7 bx7 M7 hsm hB7 hd7 D7 hs64 y0 y1 y2 y3 y4
      go_wp2_with fail
      exact bodyPost_ret (v := .tuple #[t.val, s.val]) (by simp [results, Try.results9, go_sem, n0, n1, n2, n3, n4, m0, m1, m2, m3, m4]) rfl ⟨t, s, rfl, ⟨HTS.out, HS64.out⟩, HE.out⟩
end Go.Proofs.Ythhhmlohfhioeaa
