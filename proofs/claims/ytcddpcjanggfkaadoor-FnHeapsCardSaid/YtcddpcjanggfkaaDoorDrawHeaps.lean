/-
  The draws of the law on heaps: a heap, two heaps, a heap and a cell, a heap and a number, names and a heap: of what is drawn only the range is told.
-/
import Derived.Test.YtcddpcjanggfkaaDoorDrawHeap
import Derived.Test.YtcddpcjanggfkaaDoorAppendRow
import Derived.Deep.RegionHeld3
namespace Go.Proofs.YtcddpcjanggfkaaDoor
open Go Go.RowKit

/-- The rows of a heap, in blocks from lo on, below hi: they may be read. -/
def HRows (lo hi : Nat) (W : World) (a b : Option Addr) (vs zs : List Int) : Prop := RowIn lo hi W a (intVals vs) ∧ RowIn lo hi W b (intVals zs)
section
variable {lo hi lo' hi' : Nat} {W W' : World} {a b : Option Addr} {vs zs : List Int}
theorem HRows.turn (h : HRows lo hi W a b vs zs) (t : Turn lo' hi' W W') (hd : hi ≤ lo' ∨ hi' ≤ lo) : HRows lo hi W' a b vs zs := ⟨h.1.turn t hd, h.2.turn t hd⟩
theorem HRows.below (h : HRows lo hi W a b vs zs) (hb : Below W.heap.size W W') : HRows lo hi W' a b vs zs := ⟨h.1.below hb, h.2.below hb⟩
theorem HRows.at_ (h : HRows lo hi W a b vs zs) : HeapAt W a b vs zs := ⟨h.1.row, h.2.row⟩
theorem HRows.hi_le (h : HRows lo hi W a b vs zs) : hi ≤ W.heap.size := h.1.1
theorem HeapIn.reads {ca cb : Nat} (h : HeapIn lo hi W a ca b cb (intVals vs) (intVals zs)) : HRows lo hi W a b vs zs := ⟨h.v.rowIn, h.z.rowIn⟩
end
theorem one_boxL (w : World) (xs : List Value) (t : TypeId) : ∃ W0, w.alloc (.cells xs.toArray t) = W0 ∧ Below w.heap.size w W0 ∧ BoxL W0 w.heap.size xs :=
  ⟨_, rfl, (Below.refl _ _).alloc (Nat.le_refl _) _, BoxL.new w xs t⟩
theorem wrap_one {z : Nat} (h : z ≤ 9223372036854775807) : IntKind.i64.wrap ((z : Int) - 1) = (z : Int) - 1 := by
  rw [IntKind.wrap_i64]; omega

/-- A heap, drawn from a law's bytes. -/
def SomeHeap (w : World) (e : Ending) (w' : World) : Prop :=
  ∃ a ca b cb vs zs, e = .returned (heV a vs.length ca b zs.length cb) ∧ vs.length = 3 ∧ zs.length ≤ 6 ∧ HRows w.heap.size w'.heap.size w' a b vs zs ∧ Below w.heap.size w w'
theorem RowIn.mono {lo hi lo' hi' : Nat} {W : World} {a : Option Addr} {xs : List Value} (h : RowIn lo hi W a xs) (h1 : lo' ≤ lo) (h2 : hi ≤ hi') (h3 : hi' ≤ W.heap.size) : RowIn lo' hi' W a xs :=
  ⟨h3, fun k x hx => let ⟨b, o, e, q1, q2, q3⟩ := h.2 k x hx; ⟨b, o, e, Nat.le_trans h1 q1, Nat.lt_of_lt_of_le q2 h2, q3⟩⟩
theorem some_end {w W : World} {lo hi : Nat} {a b : Option Addr} {vs zs : List Int} (hB : Below w.heap.size w W) (hl : w.heap.size < lo) (hin : HRows lo hi W a b vs zs) (u0 u1 : Value) :
    HRows w.heap.size ((W.setCell ⟨w.heap.size, 0, none⟩ u0).setCell ⟨w.heap.size, 1, none⟩ u1).heap.size ((W.setCell ⟨w.heap.size, 0, none⟩ u0).setCell ⟨w.heap.size, 1, none⟩ u1) a b vs zs ∧ Below w.heap.size w ((W.setCell ⟨w.heap.size, 0, none⟩ u0).setCell ⟨w.heap.size, 1, none⟩ u1) :=
  have tq : Turn w.heap.size (w.heap.size + 1) W ((W.setCell ⟨w.heap.size, 0, none⟩ u0).setCell ⟨w.heap.size, 1, none⟩ u1) := (turn_set _ _ _ _).trans (turn_set _ _ _ _)
  have h := hin.turn tq (.inr (by omega))
  ⟨⟨h.1.mono (by omega) h.1.1 (Nat.le_refl _), h.2.mono (by omega) h.2.1 (Nat.le_refl _)⟩, Turn.below hB tq (Nat.le_refl _) hB.size⟩

set_option maxRecDepth 100000 in
set_option maxHeartbeats 1600000 in
theorem drawCanonHeap (a : Option Addr) (n cap : Nat) (w : World) (hn : n ≤ 1099511627776) (hcode : Code8 w w.heap.size n a) : Calls Tryd.prog 6 #[.slice a n cap] w (SomeHeap w) := by
  go_enter Tryd.func6, Tryd.ntmps6
  go_wp2_with fail
  obtain ⟨W0, hW0, hb0, bn0⟩ := one_boxL w [.slice none 0 0, .slice none 0 0] 26
  simp only [List.toArray] at hW0
  rw [hW0]
  clear hW0
  have hs0 := bn0.lt
  refine (drawNew a n cap _ hn ((hcode.keeps fun p hp => hb0.cell hp).grow hb0.size)).mono ?_
  rintro e w1 ⟨g, rfl, hg, hc1, hb1⟩
  have bn1 := bn0.below hb1
  have hB1 := hb0.trans (hb1.mono hb0.size)
  have hz1 := hb1.size
  clear bn0
  go_wp2_with fail
  refine (drawBentHeap g _ hc1).mono ?_
  rintro e w2 ⟨nv, ra, rca, rb, rcb, vs, zs, rfl, hnv, hvl, hzl, hin2, D2⟩
  have HVL := Lib.hid hvl
  clear hvl
  have bn2 := bn1.turn (turn_drawn D2.grown) (.inl (by omega))
  have hB2 := below_only hB1 D2.grown hB1.size (by omega)
  have hal := (Below.refl w2.heap.size w2).alloc (Nat.le_refl _) (.cells #[.slice ra vs.length rca, .slice rb zs.length rcb] 26)
  have bn3 := bn2.below hal
  have bp3 := BoxL.new w2 [.slice ra vs.length rca, .slice rb zs.length rcb] 26
  have n0 := bn3.c 0 _ rfl
  have n1 := bn3.c 1 _ rfl
  have nf := bn3.f
  have p0 := bp3.c 0 _ rfl
  have p1 := bp3.c 1 _ rfl
  have hend := fun u0 u1 => some_end (hB2.trans (hal.mono hB2.size)) (by omega) (hin2.reads.below hal) u0 u1
  have HE := Lib.hid hend
  clear hend hin2 D2 bn1 bn2 bn3 bp3
  go_wp2
  exact bodyPost_ret (v := heV ra vs.length rca rb zs.length rcb) (by simp [results, Tryd.results6, go_sem, n0, n1]) rfl ⟨ra, rca, rb, rcb, vs, zs, rfl, HVL.out, hzl, HE.out _ _⟩

/-- A number of names and a heap, drawn. -/
def SomeNumHeap (w : World) (e : Ending) (w' : World) : Prop :=
  ∃ n a ca b cb vs zs, e = .returned (.tuple #[.int .i64 n, heV a vs.length ca b zs.length cb]) ∧ (2 ≤ n ∧ n ≤ 4) ∧ vs.length = 3 ∧ zs.length ≤ 6 ∧ HRows w.heap.size w'.heap.size w' a b vs zs ∧ Below w.heap.size w w'
set_option maxRecDepth 100000 in
set_option maxHeartbeats 1600000 in
theorem drawIsHeap (a : Option Addr) (n cap : Nat) (w : World) (hn : n ≤ 1099511627776) (hcode : Code8 w w.heap.size n a) : Calls Tryd.prog 8 #[.slice a n cap] w (SomeNumHeap w) := by
  go_enter Tryd.func8, Tryd.ntmps8
  go_wp2_with fail
  obtain ⟨W0, hW0, hb0, bn0⟩ := one_boxL w [.slice none 0 0, .slice none 0 0] 26
  simp only [List.toArray] at hW0
  rw [hW0]
  clear hW0
  have hs0 := bn0.lt
  refine (drawNew a n cap _ hn ((hcode.keeps fun p hp => hb0.cell hp).grow hb0.size)).mono ?_
  rintro e w1 ⟨g, rfl, hg, hc1, hb1⟩
  have bn1 := bn0.below hb1
  have hB1 := hb0.trans (hb1.mono hb0.size)
  have hz1 := hb1.size
  clear bn0
  go_wp2_with fail
  refine (drawBentHeap g _ hc1).mono ?_
  rintro e w2 ⟨nv, ra, rca, rb, rcb, vs, zs, rfl, hnv, hvl, hzl, hin2, D2⟩
  have HVL := Lib.hid hvl
  clear hvl
  have bn2 := bn1.turn (turn_drawn D2.grown) (.inl (by omega))
  have hB2 := below_only hB1 D2.grown hB1.size (by omega)
  go_wp2
  obtain ⟨W3, hW3, hb3, bp3⟩ := one_boxL w2 [.slice ra vs.length rca, .slice rb zs.length rcb] 26
  simp only [List.toArray] at hW3
  rw [hW3]
  clear hW3
  have bn3 := bn2.below hb3
  have p0 := bp3.c 0 _ rfl
  have p1 := bp3.c 1 _ rfl
  have n0 := bn3.c 0 _ rfl
  have n1 := bn3.c 1 _ rfl
  have nf := bn3.f
  have hnl := bn3.lt
  have hend := fun u0 u1 => some_end (hB2.trans (hb3.mono hB2.size)).drew (by omega) ((hin2.reads.below hb3).below (Below.drew (Below.refl _ _))) u0 u1
  have HE := Lib.hid hend
  clear hend hin2 D2 bn1 bn2
  go_region
  all_goals
    go_wp2
    exact bodyPost_ret (v := .tuple #[.int .i64 nv, heV ra vs.length rca rb zs.length rcb]) (by simp [results, Tryd.results8, go_sem, n0, n1]) rfl ⟨nv, ra, rca, rb, rcb, vs, zs, rfl, hnv, HVL.out, hzl, HE.out _ _⟩

/-- A heap and a cell, drawn. -/
def SomeHeapCell (w : World) (e : Ending) (w' : World) : Prop :=
  ∃ a ca b cb vs zs, ∃ x : Int, e = .returned (.tuple #[heV a vs.length ca b zs.length cb, .int .i64 x]) ∧ (-1 ≤ x ∧ x ≤ 6) ∧ vs.length = 3 ∧ zs.length ≤ 6 ∧ HRows w.heap.size w'.heap.size w' a b vs zs ∧ Below w.heap.size w w'
set_option maxRecDepth 100000 in
set_option maxHeartbeats 1600000 in
theorem drawFollowed (a : Option Addr) (n cap : Nat) (w : World) (hn : n ≤ 1099511627776) (hcode : Code8 w w.heap.size n a) : Calls Tryd.prog 15 #[.slice a n cap] w (SomeHeapCell w) := by
  go_enter Tryd.func15, Tryd.ntmps15
  go_wp2_with fail
  obtain ⟨W0, hW0, hb0, bn0⟩ := one_boxL w [.slice none 0 0, .slice none 0 0] 26
  simp only [List.toArray] at hW0
  rw [hW0]
  clear hW0
  have hs0 := bn0.lt
  refine (drawNew a n cap _ hn ((hcode.keeps fun p hp => hb0.cell hp).grow hb0.size)).mono ?_
  rintro e w1 ⟨g, rfl, hg, hc1, hb1⟩
  have bn1 := bn0.below hb1
  have hB1 := hb0.trans (hb1.mono hb0.size)
  have hz1 := hb1.size
  clear bn0
  go_wp2_with fail
  have D1 := Dg.start hc1
  have hg1 := hc1.lt
  refine (drawBentHeap g _ hc1).mono ?_
  rintro e w2 ⟨nv, ra, rca, rb, rcb, vs, zs, rfl, hnv, hvl, hzl, hin2, D2⟩
  have HVL := Lib.hid hvl
  clear hvl
  have bn2 := bn1.turn (turn_drawn D2.grown) (.inl (by omega))
  have h12 := D2.grown.size
  go_wp2
  obtain ⟨W3, hW3, hb3, bp3⟩ := one_boxL w2 [.slice ra vs.length rca, .slice rb zs.length rcb] 26
  simp only [List.toArray] at hW3
  rw [hW3]
  clear hW3
  have bn3 := bn2.below hb3
  have D3 := D2.below hb3
  have hin3 := hin2.reads.below hb3
  have DD := Lib.hid (D3.below (Below.drew (Below.refl _ _)))
  have BND := Lib.hid (bn3.below (Below.drew (Below.refl _ _)))
  have BPD := Lib.hid (bp3.below (Below.drew (Below.refl _ _)))
  have HIN := Lib.hid (hin3.below (Below.drew (Below.refl _ _)))
  have p0 := BPD.out.c 0 _ rfl
  have p1 := BPD.out.c 1 _ rfl
  have m0 := bp3.c 0 _ rfl
  have m1 := bp3.c 1 _ rfl
  have n0' := BND.out.c 0 _ rfl
  have n1' := BND.out.c 1 _ rfl
  have nf' := BND.out.f
  have h23 := hb3.size
  have hQ := bp3.lt
  clear bn1 bn2 bn3 bp3 D1 D2 D3 hin2 hin3
  go_region_law
    (first
      | (go_simp; go_at_call 43; (refine (drawBelow g 7 _ (by omega) (by omega) DD.out.cur).mono ?_); rintro e w4 ⟨z, hz, rfl, hc4, hw4⟩; have hwr : IntKind.i64.wrap ((z : Int) - 1) = (z : Int) - 1 := (wrap_one (by omega)); have t4 := turn_drawn hw4; have D4 := DD.out.draw hc4 hw4; have bn4 := BND.out.turn t4 (.inl (by omega)); have bp4 := BPD.out.turn t4 (.inr (by omega)); have hin4 := HIN.out.turn t4 (.inr (by omega)); have q0 := bp4.c 0 _ rfl; have q1 := bp4.c 1 _ rfl; have n0 := bn4.c 0 _ rfl; have n1 := bn4.c 1 _ rfl; have nf := bn4.f; have hnl := bn4.lt))
  all_goals
    have hB4 := below_only hB1 D4.grown hB1.size (by omega)
    have hend := fun u0 u1 => some_end hB4 (by omega) hin4 u0 u1
    have HE := Lib.hid hend
    clear hend hin4 D4
    go_wp2
    exact bodyPost_ret (v := .tuple #[heV ra vs.length rca rb zs.length rcb, .int .i64 ((z : Int) - 1)]) (by simp [results, Tryd.results15, go_sem, n0, n1]) rfl ⟨ra, rca, rb, rcb, vs, zs, (z : Int) - 1, rfl, by omega, HVL.out, hzl, HE.out _ _⟩
end Go.Proofs.YtcddpcjanggfkaaDoor
