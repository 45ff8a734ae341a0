/-
  Names, a statement and a heap, drawn for Exec.
-/
import Derived.Deep.RegionHeld3
import Derived.Test.YtpmmjaceehlpiaaDoorY05
import Derived.Test.YtpmmjaceehlpiaaDoorY17
namespace Go.Proofs.YtpmmjaceehlpiaaDoor
open Go Go.RowKit

/-- What Exec is tried on: three names, a statement, a heap of three variables. -/
def ExecDrawn (w : World) (e : Ending) (w' : World) : Prop :=
  ∃ (k : Int) (sa sb : ByteArray) (o : Nat) (a : Option Addr) (ca : Nat) (b : Option Addr) (cb : Nat) (vs zs : List Int), (-1 ≤ k ∧ k ≤ 21) ∧ (sa.size ≤ 21 ∧ sb.size ≤ 21) ∧ vs.length = 3 ∧ zs.length ≤ 6 ∧
    e = .returned (.tuple #[.slice (some ⟨o, 0, none⟩) 3 3, stV k sa sb, heV a vs.length ca b zs.length cb]) ∧ Row w' w'.heap.size (some ⟨o, 0, none⟩) (strVals vars3) ∧ (∃ lo hi, HeapIn lo hi w' a ca b cb (intVals vs) (intVals zs)) ∧ Below w.heap.size w w'
structure Xs (w w1 : World) (g Q : Nat) (k : Int) (sa sb : ByteArray) (W : World) : Prop where
  d : Dg w1 g W
  bs : BoxL W w.heap.size [.int .i64 0, .string ⟨#[]⟩, .string ⟨#[]⟩]
  bh : BoxL W (w.heap.size + 1) [.slice none 0 0, .slice none 0 0]
  bq : BoxL W Q [.int .i64 k, .string sa, .string sb]
  b : Below w.heap.size w W
  hg : w.heap.size + 1 < g
  hQ : g < Q
section
variable {w w1 W W' : World} {g Q : Nat} {k : Int} {sa sb : ByteArray}
theorem Xs.draw (h : Xs w w1 g Q k sa sb W) (hc : Cur W' g) (hw : W.grownBy W' (some g)) : Xs w w1 g Q k sa sb W' := by
  have t : Turn g (g + 1) W W' := Turn.of_grown hw (fun j hj => by have := Option.some.inj hj; omega)
  have h1 := h.hg
  have h2 := h.hQ
  exact ⟨h.d.draw hc hw, h.bs.turn t (.inl (by omega)), h.bh.turn t (.inl (by omega)), h.bq.turn t (.inr (by omega)), t.below h.b (by omega) h.b.size, h1, h2⟩
theorem Xs.below (h : Xs w w1 g Q k sa sb W) (hb : Below W.heap.size W W') : Xs w w1 g Q k sa sb W' :=
  ⟨h.d.below hb, h.bs.below hb, h.bh.below hb, h.bq.below hb, h.b.trans (hb.mono h.b.size), h.hg, h.hQ⟩
theorem Xs.setQ (h : Xs w w1 g Q k sa sb W) (hq : w1.heap.size ≤ Q) (k' : Int) (sa' sb' : ByteArray) : Xs w w1 g Q k' sa' sb' (((W.setCell ⟨Q, 0, none⟩ (.int .i64 k')).setCell ⟨Q, 1, none⟩ (.string sa')).setCell ⟨Q, 2, none⟩ (.string sb')) := by
  have t : Turn Q (Q + 1) W (((W.setCell ⟨Q, 0, none⟩ (.int .i64 k')).setCell ⟨Q, 1, none⟩ (.string sa')).setCell ⟨Q, 2, none⟩ (.string sb')) := ((turn_set _ _ _ _).trans (turn_set _ _ _ _)).trans (turn_set _ _ _ _)
  have h1 := h.hg
  have h2 := h.hQ
  exact ⟨h.d.turn t hq, h.bs.turn t (.inl (by omega)), h.bh.turn t (.inl (by omega)), ((h.bq.set 0 _).set 1 _).set 2 _, t.below h.b (by omega) h.b.size, h1, h2⟩
end
theorem turn2_a {A i : Nat} {W9 W : World} {u : Value} (h : Turn A (A + 2) W9 W) : Turn A (A + 2) W9 (W.setCell ⟨A, i, none⟩ u) := h.trans ((turn_set W A i u).mono (Nat.le_refl _) (Nat.le_succ _))
theorem turn2_b {A i : Nat} {W9 W : World} {u : Value} (h : Turn A (A + 2) W9 W) : Turn A (A + 2) W9 (W.setCell ⟨A + 1, i, none⟩ u) := h.trans ((turn_set W (A + 1) i u).mono (Nat.le_succ _) (Nat.le_refl _))
theorem turn2_alloc {A B : Nat} {W9 W : World} {c : Obj} (h : Turn A B W9 W) : Turn A B W9 (W.alloc c) := h.trans (Turn.of_below ((Below.refl _ _).alloc (Nat.le_refl _) c))
theorem turn2_drew {A B : Nat} {W9 W : World} (h : Turn A B W9 W) : Turn A B W9 W.drew := h.trans (Turn.of_below (Below.drew (Below.refl _ _)))
theorem turn2_refl {A B : Nat} {W9 : World} : Turn A B W9 W9 := Turn.of_below (Below.refl _ _)
theorem laidEnd {W9 : World} {A n m rca rcb : Nat} {k : Int} {sa sb : ByteArray} {ra rb : Option Addr} {t : TypeId} (bs : BoxL W9 A [.int .i64 0, .string ⟨#[]⟩, .string ⟨#[]⟩]) (bh : BoxL W9 (A + 1) [.slice none 0 0, .slice none 0 0]) :
    ∃ V, ((((((W9.setCell ⟨A, 0, none⟩ (.int .i64 k)).setCell ⟨A, 1, none⟩ (.string sa)).setCell ⟨A, 2, none⟩ (.string sb)).setCell ⟨A + 1, 0, none⟩ (.slice ra n rca)).setCell ⟨A + 1, 1, none⟩ (.slice rb m rcb)).alloc (.cells (strVals vars3).toArray t)).drew = V ∧ BoxL V A [.int .i64 k, .string sa, .string sb] ∧ BoxL V (A + 1) [.slice ra n rca, .slice rb m rcb] ∧ BoxL V W9.heap.size (strVals vars3) ∧ Turn A (A + 2) W9 V := by
  have ta : ∀ (W : World) (i : Nat) (u : Value), Turn A (A + 1) W (W.setCell ⟨A, i, none⟩ u) := fun W i u => turn_set W A i u
  have tb : ∀ (W : World) (i : Nat) (u : Value), Turn (A + 1) (A + 2) W (W.setCell ⟨A + 1, i, none⟩ u) := fun W i u => turn_set W (A + 1) i u
  have s1 := (((bs.set 0 (.int .i64 k)).set 1 (.string sa)).set 2 (.string sb))
  have h1 := (((bh.turn (ta _ 0 (.int .i64 k)) (.inr (Nat.le_refl _))).turn (ta _ 1 (.string sa)) (.inr (Nat.le_refl _))).turn (ta _ 2 (.string sb)) (.inr (Nat.le_refl _)))
  have s2 := ((s1.turn (tb _ 0 (.slice ra n rca)) (.inl (Nat.lt_succ_self _))).turn (tb _ 1 (.slice rb m rcb)) (.inl (Nat.lt_succ_self _)))
  have h2 := ((h1.set 0 (.slice ra n rca)).set 1 (.slice rb m rcb))
  have tt : Turn A (A + 2) W9 (((((W9.setCell ⟨A, 0, none⟩ (.int .i64 k)).setCell ⟨A, 1, none⟩ (.string sa)).setCell ⟨A, 2, none⟩ (.string sb)).setCell ⟨A + 1, 0, none⟩ (.slice ra n rca)).setCell ⟨A + 1, 1, none⟩ (.slice rb m rcb)) := turn2_b (turn2_b (turn2_a (turn2_a (turn2_a turn2_refl))))
  have hz : (((((W9.setCell ⟨A, 0, none⟩ (.int .i64 k)).setCell ⟨A, 1, none⟩ (.string sa)).setCell ⟨A, 2, none⟩ (.string sb)).setCell ⟨A + 1, 0, none⟩ (.slice ra n rca)).setCell ⟨A + 1, 1, none⟩ (.slice rb m rcb)).heap.size = W9.heap.size := by simp
  obtain ⟨W, hW⟩ : ∃ W, (((((W9.setCell ⟨A, 0, none⟩ (.int .i64 k)).setCell ⟨A, 1, none⟩ (.string sa)).setCell ⟨A, 2, none⟩ (.string sb)).setCell ⟨A + 1, 0, none⟩ (.slice ra n rca)).setCell ⟨A + 1, 1, none⟩ (.slice rb m rcb)) = W := ⟨_, rfl⟩
  rw [hW] at s2 h2 tt hz ⊢
  have hb : Below W.heap.size W (W.alloc (.cells (strVals vars3).toArray t)).drew := Below.drew ((Below.refl _ _).alloc (Nat.le_refl _) _)
  have hd : Below (W.alloc (.cells (strVals vars3).toArray t)).heap.size (W.alloc (.cells (strVals vars3).toArray t)) (W.alloc (.cells (strVals vars3).toArray t)).drew := Below.drew (Below.refl _ _)
  have v := (BoxL.new W (strVals vars3) t).below hd
  rw [hz] at v
  exact ⟨_, rfl, s2.below hb, h2.below hb, v, turn2_drew (turn2_alloc tt)⟩
set_option maxRecDepth 100000 in
set_option maxHeartbeats 3200000 in
theorem drawExec (a : Option Addr) (n cap : Nat) (w : World) (hn : n ≤ 1099511627776) (hcode : Code8 w w.heap.size n a) : Calls Tryd.prog 6 #[.slice a n cap] w (ExecDrawn w) := by
  go_enter Tryd.func6, Tryd.ntmps6
  go_wp2_with fail
  obtain ⟨W0, hW0, hb0, bs0, bh0⟩ := two_boxL w [.int .i64 0, .string ⟨#[]⟩, .string ⟨#[]⟩] [.slice none 0 0, .slice none 0 0] 26 29
  simp only [List.toArray] at hW0
  rw [hW0]
  clear hW0
  have hs0 := bh0.lt
  refine (drawNew a n cap _ hn ((hcode.keeps fun p hp => hb0.cell hp).grow hb0.size)).mono ?_
  rintro e w1 ⟨g, rfl, hg, hc1, hb1⟩
  have hg' : w.heap.size + 1 < g := by omega
  have bs1 := bs0.below hb1
  have bh1 := bh0.below hb1
  have hB1 := hb0.trans (hb1.mono hb0.size)
  have hg1 := hc1.lt
  clear hb1 bs0 bh0 hg
  go_wp2_with fail
  refine (drawStmt g _ hc1).mono ?_
  rintro e w2 ⟨k, sa, sb, hk0, hk1, ha, hb, rfl, hc2, hw2⟩
  have t2 : Turn g (g + 1) w1 w2 := Turn.of_grown hw2 (fun j hj => by have := Option.some.inj hj; omega)
  have hal := (Below.refl w2.heap.size w2).alloc (Nat.le_refl _) (.cells #[.int .i64 k, .string sa, .string sb] 26)
  have bq2 : BoxL (w2.alloc (.cells #[.int .i64 k, .string sa, .string sb] 26)) w2.heap.size [.int .i64 k, .string sa, .string sb] := BoxL.new w2 _ _
  have X2 : Xs w w1 g w2.heap.size k sa sb (w2.alloc (.cells #[.int .i64 k, .string sa, .string sb] 26)) :=
    ⟨((Dg.start hc1).draw hc2 hw2).below hal, (bs1.turn t2 (.inl (by omega))).below hal, (bh1.turn t2 (.inl (by omega))).below hal, bq2, (t2.below hB1 (by omega) hB1.size).trans (hal.mono (Nat.le_trans hB1.size t2.size)), hg', Nat.lt_of_lt_of_le hg1 t2.size⟩
  have hz12 : w1.heap.size ≤ w2.heap.size := t2.size
  clear hc2 hw2 t2 hal bq2 bs1 bh1 hc1
  have HX2 := Lib.hid X2
  go_wp2_with fail
  refine (drawOnce g 12 _ (by omega) (by omega) HX2.out.d.cur).mono ?_
  rintro e w3 ⟨bit, rfl, hc3, hw3⟩
  have X3 := X2.draw hc3 hw3
  clear X2 HX2 hc3 hw3
  cases bit
  case' true =>
    have HX3 := Lib.hid X3
    clear X3 hk0 hk1 ha hb
    go_wp2_with fail
    refine (drawBent g _ HX3.out.d.cur).mono ?_
    rintro e w4 ⟨k, sa, sb, hk0, hk1, ha, hb, rfl, hc4, hw4⟩
    have X4 := HX3.out.draw hc4 hw4
    have v0 := X4.bq.c 0 _ rfl
    have v1 := X4.bq.c 1 _ rfl
    have v2 := X4.bq.c 2 _ rfl
    have vf := X4.bq.f
    have vl := X4.bq.lt
    have X5 := X4.setQ hz12 k sa sb
    clear X4 HX3 hc4 hw4
    obtain ⟨W5, hW5⟩ : ∃ W, (((w4.setCell ⟨w2.heap.size, 0, none⟩ (.int .i64 k)).setCell ⟨w2.heap.size, 1, none⟩ (.string sa)).setCell ⟨w2.heap.size, 2, none⟩ (.string sb)) = W := ⟨_, rfl⟩
    rw [hW5] at X5
  case' false =>
    have X5 := X3
    obtain ⟨W5, hW5⟩ : ∃ W, w3 = W := ⟨_, rfl⟩
    rw [hW5] at X5
    clear X3
  all_goals
    have HX5 := Lib.hid X5
    have hz5 : w2.heap.size < W5.heap.size := X5.bq.lt
    clear X5
    go_wp2_with fail
    refine (drawHeap g _ HX5.out.d.cur).mono ?_
    rintro e w6 ⟨ra, rca, rb, rcb, vs, zs, rfl, hvl, hzl5, hin6, hd6⟩
    have hzl : zs.length ≤ 6 := Nat.le_succ_of_le hzl5
    have X6 := HX5.out.draw hd6.cur hd6.grown
    have hz56 : W5.heap.size ≤ w6.heap.size := hd6.grown.size
    have hal6 := (Below.refl w6.heap.size w6).alloc (Nat.le_refl _) (.cells #[.slice ra vs.length rca, .slice rb zs.length rcb] 29)
    have bH7 : BoxL (w6.alloc (.cells #[.slice ra vs.length rca, .slice rb zs.length rcb] 29)) w6.heap.size [.slice ra vs.length rca, .slice rb zs.length rcb] := BoxL.new w6 _ _
    have HX7 := Lib.hid (X6.below hal6)
    have hin7 := hin6.below hal6
    have HVL := Lib.hid hvl
    have hgw : g < W5.heap.size := Nat.lt_trans HX5.out.hQ hz5
    clear hal6 hin6 hd6 X6 hvl hzl5
    go_wp2_with fail
    refine (drawOnce g 12 _ (by omega) (by omega) HX7.out.d.cur).mono ?_
    rintro e w8 ⟨bit2, rfl, hc8, hw8⟩
    have t8 : Turn g (g + 1) _ w8 := Turn.of_grown hw8 (fun j hj => by have := Option.some.inj hj; omega)
    have X8 := HX7.out.draw hc8 hw8
    have bH8 := bH7.turn t8 (.inr (by omega))
    have hin8 := hin7.turn t8 (.inr (by omega))
    have hz8 : w6.heap.size < w8.heap.size := bH8.lt
    clear bH7 hin7 t8 hc8 hw8 HX7 HX5
    cases bit2
    case' true =>
      have HX8 := Lib.hid X8
      have HB8 := Lib.hid bH8
      clear X8 bH8 hin8
      go_wp2_with fail
      refine (drawBentHeap g _ HX8.out.d.cur).mono ?_
      rintro e w9 ⟨nn, ra, rca, rb, rcb, vs, zs, rfl, hnn, hvl, hzl, hin9, hd9⟩
      have X9 := HX8.out.draw hd9.cur hd9.grown
      have t9 : Turn g (g + 1) w8 w9 := Turn.of_grown hd9.grown (fun j hj => by have := Option.some.inj hj; omega)
      have bH9 := HB8.out.turn t9 (.inr (by omega))
      have hz89 : w8.heap.size ≤ w9.heap.size := t9.size
      have u0 := bH9.c 0 _ rfl
      have u1 := bH9.c 1 _ rfl
      have uf := bH9.f
      have ul := bH9.lt
      have tH := ((turn_set w9 w6.heap.size 0 (.slice ra vs.length rca)).trans (turn_set _ w6.heap.size 1 (.slice rb zs.length rcb)))
      have XH : Xs w w1 g w2.heap.size k sa sb ((w9.setCell ⟨w6.heap.size, 0, none⟩ (.slice ra vs.length rca)).setCell ⟨w6.heap.size, 1, none⟩ (.slice rb zs.length rcb)) := by
        have q1 := X9.hg
        have q2 := X9.hQ
        exact ⟨X9.d.turn tH (by omega), X9.bs.turn tH (.inl (by omega)), X9.bh.turn tH (.inl (by omega)), X9.bq.turn tH (.inl (by omega)), tH.below X9.b (by omega) X9.b.size, q1, q2⟩
      have bHH := (bH9.set 0 (.slice ra vs.length rca)).set 1 (.slice rb zs.length rcb)
      have hinH := hin9.turn tH (.inr (by omega))
      clear X9 bH9 hin9 tH t9 hd9 HX8 HB8
      have X9 := XH
      have bH9 := bHH
      have hin9 := hinH
      clear XH bHH hinH
      obtain ⟨W9, hW9⟩ : ∃ W, ((w9.setCell ⟨w6.heap.size, 0, none⟩ (.slice ra vs.length rca)).setCell ⟨w6.heap.size, 1, none⟩ (.slice rb zs.length rcb)) = W := ⟨_, rfl⟩
      rw [hW9] at X9 bH9 hin9
    case' false =>
      have X9 := X8
      have bH9 := bH8
      have hin9 := hin8
      have hvl := HVL.out
      obtain ⟨W9, hW9⟩ : ∃ W, w8 = W := ⟨_, rfl⟩
      rw [hW9] at X9 bH9 hin9
      clear X8 bH8 hin8
    all_goals
      have hX9 := X9
      have hz9 := hX9.b.size
      have HS9 := Lib.hid (show ∀ W, Turn w.heap.size (w.heap.size + 2) W9 W → (W.cell? ⟨w2.heap.size, 0, none⟩ = some (.int .i64 k) ∧ W.cell? ⟨w2.heap.size, 1, none⟩ = some (.string sa) ∧ W.cell? ⟨w2.heap.size, 2, none⟩ = some (.string sb)) ∧ (W.cell? ⟨w6.heap.size, 0, none⟩ = some (.slice ra vs.length rca) ∧ W.cell? ⟨w6.heap.size, 1, none⟩ = some (.slice rb zs.length rcb)) from fun W t =>
        have b1 := hX9.bq.turn t (.inr (by omega))
        have b2 := bH9.turn t (.inr (by omega))
        ⟨⟨b1.c 0 _ rfl, b1.c 1 _ rfl, b1.c 2 _ rfl⟩, b2.c 0 _ rfl, b2.c 1 _ rfl⟩)
      have s0 := hX9.bs.c 0 _ rfl
      have s1 := hX9.bs.c 1 _ rfl
      have s2 := hX9.bs.c 2 _ rfl
      have sf := hX9.bs.f
      have h0 := hX9.bh.c 0 _ rfl
      have h1 := hX9.bh.c 1 _ rfl
      have hf := hX9.bh.f
      have hsl := hX9.bh.lt
      have HX9 := Lib.hid hX9
      have HIN := Lib.hid hin9
      have HVL := Lib.hid hvl
      clear X9 hX9 bH9 hin9 hvl
      have hs9a : w.heap.size < W9.heap.size := by omega
      have hs9b : ¬ W9.heap.size = w.heap.size := by omega
      have hs9c : ¬ W9.heap.size = w.heap.size + 1 := by omega
      go_wp2

      go_region_held3 (fun W => (W.cell? ⟨w2.heap.size, 0, none⟩ = some (.int .i64 k) ∧ W.cell? ⟨w2.heap.size, 1, none⟩ = some (.string sa) ∧ W.cell? ⟨w2.heap.size, 2, none⟩ = some (.string sb)) ∧ (W.cell? ⟨w6.heap.size, 0, none⟩ = some (.slice ra vs.length rca) ∧ W.cell? ⟨w6.heap.size, 1, none⟩ = some (.slice rb zs.length rcb)))
        (first | (refine HS9.out _ ?_; (repeat (first | with_reducible exact turn2_refl | with_reducible refine turn2_a ?_ | with_reducible refine turn2_b ?_ | with_reducible refine turn2_alloc ?_ | with_reducible refine turn2_drew ?_)); done))
        ((go_at_call 34; (with_reducible refine (drawVars _).mono ?_); rintro e w10 ⟨rfl, rfl⟩))
      all_goals (try go_wp2)
      all_goals
        obtain ⟨V, hV, bsV, bhV, bvV, tV⟩ := laidEnd (k := k) (sa := sa) (sb := sb) (ra := ra) (rca := rca) (rb := rb) (rcb := rcb) (n := vs.length) (m := zs.length) (t := 9) HX9.out.bs HX9.out.bh
        rw [hV]
        clear hV
        have q0 := bsV.c 0 _ rfl
        have q1 := bsV.c 1 _ rfl
        have q2 := bsV.c 2 _ rfl
        have p0 := bhV.c 0 _ rfl
        have p1 := bhV.c 1 _ rfl
        have hbV := tV.below HX9.out.b (Nat.le_refl _) HX9.out.b.size
        have hinV := HIN.out.turn tV (.inr (by omega))
        have hrV : Row V V.heap.size (some ⟨W9.heap.size, 0, none⟩) (strVals vars3) := fun i x hx => ⟨_, 0, rfl, bvV.lt, by simpa using bvV.c i x hx⟩
        have hvl := HVL.out
        exact bodyPost_ret (v := .tuple #[.slice (some ⟨W9.heap.size, 0, none⟩) 3 3, stV k sa sb, heV ra vs.length rca rb zs.length rcb]) (by simp [results, Tryd.results6, go_sem, q0, q1, q2, p0, p1, stV, heV]) rfl ⟨k, sa, sb, _, ra, rca, rb, rcb, vs, zs, ⟨hk0, hk1⟩, ⟨ha, hb⟩, hvl, hzl, rfl, hrV, ⟨_, _, hinV⟩, hbV⟩
end Go.Proofs.YtpmmjaceehlpiaaDoor
