/-
  A formula, drawn. (Printed by wip/tools/gen_draw_tree.py.)
-/
import Derived.Test.YthhhmlohfhioeaaDrawBox
import Derived.Test.YthhhmlohfhioeaaMineTree
import Derived.Test.YthhhmlohfhioeaaSpecForm
import Derived.Deep.AppendLies
import Derived.Deep.RegionLaw
namespace Go.Proofs.Ythhhmlohfhioeaa
open Go Go.RowKit Go.ChangeAt Go.ChangeShapes Go.WideShapes

def TreeDrawn (n g : Nat) (w : World) (e : Ending) (w' : World) : Prop :=
  ∃ t : Ft, e = .returned t.val ∧ t.er.size ≤ n ∧ Dg w g w' ∧ t.Mine w' w.heap.size w'.heap.size
def treeB : Nat → Nat | 0 => 1 | d + 1 => 2 * treeB d + 1
theorem treeB_pos : ∀ d, 1 ≤ treeB d | 0 => Nat.le_refl _ | d + 1 => by have := treeB_pos d; simp only [treeB]; omega
def zeroCells : List Value := [.int .i64 0, .int .i64 0, .int .i64 0, .int .i64 0, .slice none 0 0]
theorem wrap_one {z : Nat} (h : z ≤ 1000) : IntKind.i64.wrap (1 + (z : Int)) = 1 + (z : Int) := by
  rw [IntKind.wrap_i64]; omega
theorem wrap_eight {z : Nat} (h : z ≤ 1000) : IntKind.i64.wrap (8 + (z : Int)) = 8 + (z : Int) := by
  rw [IntKind.wrap_i64]; omega
theorem wrap_less {z : Nat} (h : z ≤ 1000) : IntKind.i64.wrap ((z : Int) - 1) = (z : Int) - 1 := by
  rw [IntKind.wrap_i64]; omega
/-- The result's box and the node's box, beside the cursor. -/
structure Two (w : World) (g b : Nat) (xs ys : List Value) (W : World) : Prop where
  d : Dg w g W
  r : BoxL W w.heap.size xs
  x : BoxL W b ys
  lt : w.heap.size < b
section
variable {w W W' : World} {g b : Nat} {xs ys : List Value}
theorem Two.draw (h : Two w g b xs ys W) (hc : Cur W' g) (hw : W.grownBy W' (some g)) : Two w g b xs ys W' :=
  have hg := h.d.hg
  have hl := h.lt
  ⟨h.d.draw hc hw, h.r.turn (turn_drawn hw) (.inr (by omega)), h.x.turn (turn_drawn hw) (.inr (by omega)), h.lt⟩
theorem Two.below (h : Two w g b xs ys W) (hb : Below W.heap.size W W') : Two w g b xs ys W' := ⟨h.d.below hb, h.r.below hb, h.x.below hb, h.lt⟩
theorem Two.put (h : Two w g b xs ys W) (i : Nat) (u : Value) : Two w g b xs (ys.set i u) (W.setCell ⟨b, i, none⟩ u) :=
  have hl := h.lt
  ⟨h.d.turn (turn_set W b i u) (by omega), h.r.turn (turn_set W b i u) (.inl hl), h.x.set i u, h.lt⟩
theorem Two.res (h : Two w g b xs ys W) (i : Nat) (u : Value) : Two w g b (xs.set i u) ys (W.setCell ⟨w.heap.size, i, none⟩ u) :=
  have hl := h.lt
  ⟨h.d.turn (turn_set W w.heap.size i u) (Nat.le_refl _), h.r.set i u, h.x.turn (turn_set W w.heap.size i u) (.inr (by omega)), h.lt⟩
theorem Two.turn (h : Two w g b xs ys W) {lo hi : Nat} (t : Turn lo hi W W') (hl : b < lo) : Two w g b xs ys W' :=
  have h1 := h.lt
  ⟨h.d.turn t (by omega), h.r.turn t (.inl (by omega)), h.x.turn t (.inl hl), h.lt⟩
end
theorem Two.new {w W : World} {g : Nat} {xs : List Value} (d : Dg w g W) (r : BoxL W w.heap.size xs) (ys : List Value) (t : TypeId) : Two w g W.heap.size xs ys (W.alloc (.cells ys.toArray t)) :=
  have hb := (Below.refl W.heap.size W).alloc (Nat.le_refl _) (.cells ys.toArray t)
  ⟨d.below hb, r.below hb, BoxL.new W ys t, r.lt⟩
set_option maxRecDepth 100000 in
set_option maxHeartbeats 3200000 in
theorem drawTree_less (d : Nat) (hlt : (d : Int) < 2) (g : Nat) (w : World) (hcur : Cur w g) : Calls Try.prog 56 #[.pointer (some ⟨g, 0, none⟩), .int .i64 (d : Int)] w (TreeDrawn (treeB d) g w) := by
  have hg0 := hcur.lt
  obtain ⟨W0, hW0⟩ : ∃ W, w.alloc (.cells #[.int .i64 0, .int .i64 0, .int .i64 0, .int .i64 0, .slice none 0 0] 26) = W := ⟨_, rfl⟩
  have R0 : BoxL W0 w.heap.size zeroCells := by
    rw [← hW0]
    exact BoxL.new w zeroCells _
  have D0 : Dg w g W0 := by
    rw [← hW0]
    exact (Dg.start hcur).below ((Below.refl w.heap.size w).alloc (Nat.le_refl _) _)
  have HW0 := Lib.hid hW0
  have hs1 : w.heap.size < W0.heap.size := R0.lt
  clear hW0 hcur
  go_enter Try.func56, Try.ntmps56
  go_wp2_with fail
  rw [HW0.out]
  refine (drawBelow g 7 _ (by omega) (by omega) D0.cur).mono ?_
  rintro e w1 ⟨k, hk, rfl, hc1, hw1⟩
  have D1 := D0.draw hc1 hw1
  have R1 := R0.turn (turn_drawn hw1) (.inr (by omega))
  clear hc1 hw1 D0 R0
  obtain ⟨kd, hkd⟩ : ∃ kd : Int, 1 + (k : Int) = kd := ⟨_, rfl⟩
  obtain ⟨W2, hW2⟩ : ∃ W, w1.alloc (.cells #[.int .i64 kd, .int .i64 0, .int .i64 0, .int .i64 0, .slice none 0 0] 26) = W := ⟨_, rfl⟩
  have T1 : Two w g w1.heap.size zeroCells [.int .i64 kd, .int .i64 0, .int .i64 0, .int .i64 0, .slice none 0 0] W2 := by
    rw [← hW2]
    exact Two.new D1 R1 _ _
  have HW2 := Lib.hid hW2
  have hbx : w1.heap.size < W2.heap.size := T1.x.lt
  have hsb : w.heap.size < w1.heap.size := T1.lt
  have HKD := Lib.hid hkd
  clear hW2 D1 R1 hkd
  go_wp2_with fail
  rw [HKD.out, HW2.out]
  refine (specUses _ _).mono ?_
  rintro e w3 ⟨rfl, rfl⟩
  have x0 := T1.x.c 0 _ rfl
  clear HW2
  generalize w1.heap.size = b at *
  rcases uses_kinds kd with ⟨hu, h2, h3⟩ | ⟨hu, h2⟩ | ⟨hu, h2⟩ | ⟨hu, h2, h3⟩ | ⟨hu, h2, h3⟩
  · rw [hu]
    have e2 : (kd == 2) = false := by simpa using h2
    have e3 : (kd == 3) = false := by simpa using h3
    clear h2 h3 hu
    have r0 := T1.r.c 0 _ rfl
    have r1 := T1.r.c 1 _ rfl
    have r2 := T1.r.c 2 _ rfl
    have r3 := T1.r.c 3 _ rfl
    have r4 := T1.r.c 4 _ rfl
    have rf := T1.r.f
    have q0 := T1.x.c 0 _ rfl
    have q1 := T1.x.c 1 _ rfl
    have q2 := T1.x.c 2 _ rfl
    have q3 := T1.x.c 3 _ rfl
    have q4 := T1.x.c 4 _ rfl
    have rl := T1.r.lt
    have E0 := ((((T1.res 0 (.int .i64 kd)).res 1 (.int .i64 0)).res 2 (.int .i64 0)).res 3 (.int .i64 0)).res 4 (.slice none 0 0)
    have HE := Lib.hid E0
    clear E0 T1
    go_wp2_with fail
    exact bodyPost_ret (v := Ft.val (.mk kd 0 0 0 none 0 [])) (by simp [results, Try.results56, go_sem, Ft.val, Ft.kd, Ft.k, Ft.u, Ft.v, Ft.a, Ft.cap, Ft.args, r0, r1, r2, r3, r4]) rfl ⟨.mk kd 0 0 0 none 0 [], rfl, by have := treeB_pos d; simp [Ft.er, Ft.ers, Fm.size, Fm.sizes]; omega, HE.out.d, Ft.mine_leaf _ _ _ _ HE.out.d.grown.size (Nat.le_refl _)⟩
  · rw [hu]
    subst h2
    clear hu
    have z1 := T1.x.f
    have l1 := T1.x.lt
    go_wp2_with fail
    refine (drawBelow g 2 _ (by omega) (by omega) T1.d.cur).mono ?_
    rintro e v1 ⟨u, hu, rfl, hc, hw⟩
    have U1 := T1.draw hc hw
    have x10 := U1.x.c 0 _ rfl
    have y1 := U1.x.c 2 _ rfl
    have g1 := U1.x.f
    have S1 := U1.put 2 (.int .i64 (u : Int))
    simp only [List.set] at S1
    have hw' := hw.size
    clear hc hw z1 l1
    clear T1 x0
    have z3 := S1.x.f
    have l3 := S1.x.lt
    go_wp2_with fail
    refine (drawBelow g 3 _ (by omega) (by omega) S1.d.cur).mono ?_
    rintro e v3 ⟨p, hp, rfl, hc, hw⟩
    have U3 := S1.draw hc hw
    have x30 := U3.x.c 0 _ rfl
    have y3 := U3.x.c 1 _ rfl
    have g3 := U3.x.f
    have S3 := U3.put 1 (.int .i64 (p : Int))
    simp only [List.set] at S3
    have hw' := hw.size
    clear hc hw z3 l3
    have r0 := S3.r.c 0 _ rfl
    have r1 := S3.r.c 1 _ rfl
    have r2 := S3.r.c 2 _ rfl
    have r3 := S3.r.c 3 _ rfl
    have r4 := S3.r.c 4 _ rfl
    have rf := S3.r.f
    have q0 := S3.x.c 0 _ rfl
    have q1 := S3.x.c 1 _ rfl
    have q2 := S3.x.c 2 _ rfl
    have q3 := S3.x.c 3 _ rfl
    have q4 := S3.x.c 4 _ rfl
    have rl := S3.r.lt
    have E0 := ((((S3.res 0 (.int .i64 2)).res 1 (.int .i64 (p : Int))).res 2 (.int .i64 (u : Int))).res 3 (.int .i64 0)).res 4 (.slice none 0 0)
    have HE := Lib.hid E0
    clear E0 S3
    go_wp2_with fail
    exact bodyPost_ret (v := Ft.val (.mk 2 (p : Int) (u : Int) 0 none 0 [])) (by simp [results, Try.results56, go_sem, Ft.val, Ft.kd, Ft.k, Ft.u, Ft.v, Ft.a, Ft.cap, Ft.args, r0, r1, r2, r3, r4]) rfl ⟨.mk 2 (p : Int) (u : Int) 0 none 0 [], rfl, by have := treeB_pos d; simp [Ft.er, Ft.ers, Fm.size, Fm.sizes]; omega, HE.out.d, Ft.mine_leaf _ _ _ _ HE.out.d.grown.size (Nat.le_refl _)⟩
  · rw [hu]
    subst h2
    clear hu
    have z1 := T1.x.f
    have l1 := T1.x.lt
    go_wp2_with fail
    refine (drawBelow g 2 _ (by omega) (by omega) T1.d.cur).mono ?_
    rintro e v1 ⟨u, hu, rfl, hc, hw⟩
    have U1 := T1.draw hc hw
    have x10 := U1.x.c 0 _ rfl
    have y1 := U1.x.c 2 _ rfl
    have g1 := U1.x.f
    have S1 := U1.put 2 (.int .i64 (u : Int))
    simp only [List.set] at S1
    have hw' := hw.size
    clear hc hw z1 l1
    clear T1 x0
    have z3 := S1.x.f
    have l3 := S1.x.lt
    go_wp2_with fail
    refine (drawBelow g 3 _ (by omega) (by omega) S1.d.cur).mono ?_
    rintro e v3 ⟨p, hp, rfl, hc, hw⟩
    have U3 := S1.draw hc hw
    have x30 := U3.x.c 0 _ rfl
    have y3 := U3.x.c 1 _ rfl
    have g3 := U3.x.f
    have S3 := U3.put 1 (.int .i64 (p : Int))
    simp only [List.set] at S3
    have hw' := hw.size
    clear hc hw z3 l3
    have r0 := S3.r.c 0 _ rfl
    have r1 := S3.r.c 1 _ rfl
    have r2 := S3.r.c 2 _ rfl
    have r3 := S3.r.c 3 _ rfl
    have r4 := S3.r.c 4 _ rfl
    have rf := S3.r.f
    have q0 := S3.x.c 0 _ rfl
    have q1 := S3.x.c 1 _ rfl
    have q2 := S3.x.c 2 _ rfl
    have q3 := S3.x.c 3 _ rfl
    have q4 := S3.x.c 4 _ rfl
    have rl := S3.r.lt
    have E0 := ((((S3.res 0 (.int .i64 3)).res 1 (.int .i64 (p : Int))).res 2 (.int .i64 (u : Int))).res 3 (.int .i64 0)).res 4 (.slice none 0 0)
    have HE := Lib.hid E0
    clear E0 S3
    go_wp2_with fail
    exact bodyPost_ret (v := Ft.val (.mk 3 (p : Int) (u : Int) 0 none 0 [])) (by simp [results, Try.results56, go_sem, Ft.val, Ft.kd, Ft.k, Ft.u, Ft.v, Ft.a, Ft.cap, Ft.args, r0, r1, r2, r3, r4]) rfl ⟨.mk 3 (p : Int) (u : Int) 0 none 0 [], rfl, by have := treeB_pos d; simp [Ft.er, Ft.ers, Fm.size, Fm.sizes]; omega, HE.out.d, Ft.mine_leaf _ _ _ _ HE.out.d.grown.size (Nat.le_refl _)⟩
  · rw [hu]
    have e2 : (kd == 2) = false := by simpa using h2
    have e3 : (kd == 3) = false := by simpa using h3
    clear h2 h3 hu
    have z1 := T1.x.f
    have l1 := T1.x.lt
    go_wp2_with fail
    refine (drawBelow g 2 _ (by omega) (by omega) T1.d.cur).mono ?_
    rintro e v1 ⟨u, hu, rfl, hc, hw⟩
    have U1 := T1.draw hc hw
    have x10 := U1.x.c 0 _ rfl
    have y1 := U1.x.c 2 _ rfl
    have g1 := U1.x.f
    have S1 := U1.put 2 (.int .i64 (u : Int))
    simp only [List.set] at S1
    have hw' := hw.size
    clear hc hw z1 l1
    clear T1 x0
    have r0 := S1.r.c 0 _ rfl
    have r1 := S1.r.c 1 _ rfl
    have r2 := S1.r.c 2 _ rfl
    have r3 := S1.r.c 3 _ rfl
    have r4 := S1.r.c 4 _ rfl
    have rf := S1.r.f
    have q0 := S1.x.c 0 _ rfl
    have q1 := S1.x.c 1 _ rfl
    have q2 := S1.x.c 2 _ rfl
    have q3 := S1.x.c 3 _ rfl
    have q4 := S1.x.c 4 _ rfl
    have rl := S1.r.lt
    have E0 := ((((S1.res 0 (.int .i64 kd)).res 1 (.int .i64 0)).res 2 (.int .i64 (u : Int))).res 3 (.int .i64 0)).res 4 (.slice none 0 0)
    have HE := Lib.hid E0
    clear E0 S1
    go_wp2_with fail
    exact bodyPost_ret (v := Ft.val (.mk kd 0 (u : Int) 0 none 0 [])) (by simp [results, Try.results56, go_sem, Ft.val, Ft.kd, Ft.k, Ft.u, Ft.v, Ft.a, Ft.cap, Ft.args, r0, r1, r2, r3, r4]) rfl ⟨.mk kd 0 (u : Int) 0 none 0 [], rfl, by have := treeB_pos d; simp [Ft.er, Ft.ers, Fm.size, Fm.sizes]; omega, HE.out.d, Ft.mine_leaf _ _ _ _ HE.out.d.grown.size (Nat.le_refl _)⟩
  · rw [hu]
    have e2 : (kd == 2) = false := by simpa using h2
    have e3 : (kd == 3) = false := by simpa using h3
    clear h2 h3 hu
    have z1 := T1.x.f
    have l1 := T1.x.lt
    go_wp2_with fail
    refine (drawBelow g 2 _ (by omega) (by omega) T1.d.cur).mono ?_
    rintro e v1 ⟨u, hu, rfl, hc, hw⟩
    have U1 := T1.draw hc hw
    have x10 := U1.x.c 0 _ rfl
    have y1 := U1.x.c 2 _ rfl
    have g1 := U1.x.f
    have S1 := U1.put 2 (.int .i64 (u : Int))
    simp only [List.set] at S1
    have hw' := hw.size
    clear hc hw z1 l1
    clear T1 x0
    have z2 := S1.x.f
    have l2 := S1.x.lt
    go_wp2_with fail
    refine (drawBelow g 3 _ (by omega) (by omega) S1.d.cur).mono ?_
    rintro e v2 ⟨v, hv, rfl, hc, hw⟩
    have U2 := S1.draw hc hw
    have x20 := U2.x.c 0 _ rfl
    have y2 := U2.x.c 3 _ rfl
    have g2 := U2.x.f
    have S2 := U2.put 3 (.int .i64 (v : Int))
    simp only [List.set] at S2
    have hw' := hw.size
    clear hc hw z2 l2
    have r0 := S2.r.c 0 _ rfl
    have r1 := S2.r.c 1 _ rfl
    have r2 := S2.r.c 2 _ rfl
    have r3 := S2.r.c 3 _ rfl
    have r4 := S2.r.c 4 _ rfl
    have rf := S2.r.f
    have q0 := S2.x.c 0 _ rfl
    have q1 := S2.x.c 1 _ rfl
    have q2 := S2.x.c 2 _ rfl
    have q3 := S2.x.c 3 _ rfl
    have q4 := S2.x.c 4 _ rfl
    have rl := S2.r.lt
    have E0 := ((((S2.res 0 (.int .i64 kd)).res 1 (.int .i64 0)).res 2 (.int .i64 (u : Int))).res 3 (.int .i64 (v : Int))).res 4 (.slice none 0 0)
    have HE := Lib.hid E0
    clear E0 S2
    go_wp2_with fail
    exact bodyPost_ret (v := Ft.val (.mk kd 0 (u : Int) (v : Int) none 0 [])) (by simp [results, Try.results56, go_sem, Ft.val, Ft.kd, Ft.k, Ft.u, Ft.v, Ft.a, Ft.cap, Ft.args, r0, r1, r2, r3, r4]) rfl ⟨.mk kd 0 (u : Int) (v : Int) none 0 [], rfl, by have := treeB_pos d; simp [Ft.er, Ft.ers, Fm.size, Fm.sizes]; omega, HE.out.d, Ft.mine_leaf _ _ _ _ HE.out.d.grown.size (Nat.le_refl _)⟩
theorem own_form5 {w : World} {base e size n : Nat} {v : Value} {xs : List Value} (h : w.ownsRow base e size v n xs) : ∃ a c, v = .slice a n c ∧ n ≤ c := by
  rcases h.2 with ⟨rfl, rfl⟩ | ⟨g, cap, cur, rfl, _, _, h1, _⟩
  · exact ⟨none, 0, rfl, Nat.le_refl _⟩
  · exact ⟨_, _, rfl, h1⟩
theorem cells_one (t : Ft) : ∀ u ∈ t.cells, u.oneCell' = true := fun u hu => fmVals_one [t] u (by simpa [fmVals] using hu)
theorem news_cells (w : World) (t : Ft) (e : TypeId) : ∀ j u, t.cells[j]? = some u → (w.alloc (.cells t.cells.toArray e)).cell? ((⟨w.heap.size, 0, none⟩ : Addr).add j) = some u := fun j u hu => by
  rw [add_plain, Nat.zero_add]
  exact (BoxL.new w t.cells e).c j u hu
theorem Ft.Mines.grown {w w' : World} {r : Option Nat} {ts : List Ft} {lo hi : Nat} (h : Ft.Mines w lo hi r ts) (hg : w.grownBy w' r) : Ft.Mines w' lo hi r ts := by
  cases r with
  | none => exact Ft.Mines.turn (Turn.of_grown (lo := 0) (hi := 0) hg (fun k hk => by cases hk)) ts h (.inl (Nat.zero_le _))
  | some b => exact Ft.Mines.stored (turn_drawn hg) ts h
theorem sizes_snoc {ts : List Ft} {t : Ft} {j N : Nat} (h : Fm.sizes (ts.map Ft.er) ≤ j * N) (ht : t.er.size ≤ N) : Fm.sizes ((ts ++ [t]).map Ft.er) ≤ (j + 1) * N := by
  rw [List.map_append, Fm.sizes_append, Nat.succ_mul]
  simp only [List.map_cons, List.map_nil, Fm.sizes]
  omega
set_option maxRecDepth 100000 in
set_option maxHeartbeats 3200000 in
theorem drawTree_more (d' : Nat) (hd1 : 1 ≤ d') (hd2 : d' ≤ 100) (ih : ∀ (g : Nat) (w : World), Cur w g → Calls Try.prog 56 #[.pointer (some ⟨g, 0, none⟩), .int .i64 (d' : Int)] w (TreeDrawn (treeB d') g w)) (g : Nat) (w : World) (hcur : Cur w g) : Calls Try.prog 56 #[.pointer (some ⟨g, 0, none⟩), .int .i64 ((d' + 1 : Nat) : Int)] w (TreeDrawn (treeB (d' + 1)) g w) := by
  obtain ⟨i0, hi, hz0, hz1, hz2⟩ := info_parts fmInfo
  have hg0 := hcur.lt
  obtain ⟨W0, hW0⟩ : ∃ W, w.alloc (.cells #[.int .i64 0, .int .i64 0, .int .i64 0, .int .i64 0, .slice none 0 0] 26) = W := ⟨_, rfl⟩
  have R0 : BoxL W0 w.heap.size zeroCells := by
    rw [← hW0]
    exact BoxL.new w zeroCells _
  have D0 : Dg w g W0 := by
    rw [← hW0]
    exact (Dg.start hcur).below ((Below.refl w.heap.size w).alloc (Nat.le_refl _) _)
  have HW0 := Lib.hid hW0
  have hs1 : w.heap.size < W0.heap.size := R0.lt
  have IH := Lib.hid ih
  obtain ⟨d, hdd⟩ : ∃ d, d' + 1 = d := ⟨_, rfl⟩
  rw [hdd]
  have hlt : ¬ (d : Int) < 2 := by omega
  have hdm : d ≤ 101 := by omega
  have hdl : (d : Int) - 1 = (d' : Int) := by omega
  have hwd : IntKind.i64.wrap (d' : Int) = (d' : Int) := by rw [IntKind.wrap_i64]; omega
  have HDD := Lib.hid hdd
  clear hW0 hcur ih hdd
  go_enter Try.func56, Try.ntmps56
  go_wp2_with fail
  rw [HW0.out]
  refine (drawOnce g 4 _ (by omega) (by omega) D0.cur).mono ?_
  rintro e w0 ⟨fl, rfl, hc0, hw0⟩
  have D := D0.draw hc0 hw0
  have R := R0.turn (turn_drawn hw0) (.inr (by omega))
  have hs2 : w.heap.size < w0.heap.size := R.lt
  clear D0 R0 hc0 hw0 HW0
  cases fl with
  | true =>
    clear IH
    go_wp2_with fail
    refine (drawBelow g 7 _ (by omega) (by omega) D.cur).mono ?_
    rintro e w1 ⟨k, hk, rfl, hc1, hw1⟩
    have D1 := D.draw hc1 hw1
    have R1 := R.turn (turn_drawn hw1) (.inr (by omega))
    clear hc1 hw1 D R
    obtain ⟨kd, hkd⟩ : ∃ kd : Int, 1 + (k : Int) = kd := ⟨_, rfl⟩
    obtain ⟨W2, hW2⟩ : ∃ W, w1.alloc (.cells #[.int .i64 kd, .int .i64 0, .int .i64 0, .int .i64 0, .slice none 0 0] 26) = W := ⟨_, rfl⟩
    have T1 : Two w g w1.heap.size zeroCells [.int .i64 kd, .int .i64 0, .int .i64 0, .int .i64 0, .slice none 0 0] W2 := by
      rw [← hW2]
      exact Two.new D1 R1 _ _
    have HW2 := Lib.hid hW2
    have hbx : w1.heap.size < W2.heap.size := T1.x.lt
    have hsb : w.heap.size < w1.heap.size := T1.lt
    have HKD := Lib.hid hkd
    clear hW2 D1 R1 hkd
    go_wp2_with fail
    rw [HKD.out, HW2.out]
    refine (specUses _ _).mono ?_
    rintro e w3 ⟨rfl, rfl⟩
    have x0 := T1.x.c 0 _ rfl
    clear HW2
    generalize w1.heap.size = b at *
    rcases uses_kinds kd with ⟨hu, h2, h3⟩ | ⟨hu, h2⟩ | ⟨hu, h2⟩ | ⟨hu, h2, h3⟩ | ⟨hu, h2, h3⟩
    · rw [hu]
      have e2 : (kd == 2) = false := by simpa using h2
      have e3 : (kd == 3) = false := by simpa using h3
      clear h2 h3 hu
      have r0 := T1.r.c 0 _ rfl
      have r1 := T1.r.c 1 _ rfl
      have r2 := T1.r.c 2 _ rfl
      have r3 := T1.r.c 3 _ rfl
      have r4 := T1.r.c 4 _ rfl
      have rf := T1.r.f
      have q0 := T1.x.c 0 _ rfl
      have q1 := T1.x.c 1 _ rfl
      have q2 := T1.x.c 2 _ rfl
      have q3 := T1.x.c 3 _ rfl
      have q4 := T1.x.c 4 _ rfl
      have rl := T1.r.lt
      have E0 := ((((T1.res 0 (.int .i64 kd)).res 1 (.int .i64 0)).res 2 (.int .i64 0)).res 3 (.int .i64 0)).res 4 (.slice none 0 0)
      have HE := Lib.hid E0
      clear E0 T1
      go_wp2_with fail
      exact bodyPost_ret (v := Ft.val (.mk kd 0 0 0 none 0 [])) (by simp [results, Try.results56, go_sem, Ft.val, Ft.kd, Ft.k, Ft.u, Ft.v, Ft.a, Ft.cap, Ft.args, r0, r1, r2, r3, r4]) rfl ⟨.mk kd 0 0 0 none 0 [], rfl, by have := treeB_pos d; simp [Ft.er, Ft.ers, Fm.size, Fm.sizes]; omega, HE.out.d, Ft.mine_leaf _ _ _ _ HE.out.d.grown.size (Nat.le_refl _)⟩
    · rw [hu]
      subst h2
      clear hu
      have z1 := T1.x.f
      have l1 := T1.x.lt
      go_wp2_with fail
      refine (drawBelow g 2 _ (by omega) (by omega) T1.d.cur).mono ?_
      rintro e v1 ⟨u, hu, rfl, hc, hw⟩
      have U1 := T1.draw hc hw
      have x10 := U1.x.c 0 _ rfl
      have y1 := U1.x.c 2 _ rfl
      have g1 := U1.x.f
      have S1 := U1.put 2 (.int .i64 (u : Int))
      simp only [List.set] at S1
      have hw' := hw.size
      clear hc hw z1 l1
      clear T1 x0
      have z3 := S1.x.f
      have l3 := S1.x.lt
      go_wp2_with fail
      refine (drawBelow g 3 _ (by omega) (by omega) S1.d.cur).mono ?_
      rintro e v3 ⟨p, hp, rfl, hc, hw⟩
      have U3 := S1.draw hc hw
      have x30 := U3.x.c 0 _ rfl
      have y3 := U3.x.c 1 _ rfl
      have g3 := U3.x.f
      have S3 := U3.put 1 (.int .i64 (p : Int))
      simp only [List.set] at S3
      have hw' := hw.size
      clear hc hw z3 l3
      have r0 := S3.r.c 0 _ rfl
      have r1 := S3.r.c 1 _ rfl
      have r2 := S3.r.c 2 _ rfl
      have r3 := S3.r.c 3 _ rfl
      have r4 := S3.r.c 4 _ rfl
      have rf := S3.r.f
      have q0 := S3.x.c 0 _ rfl
      have q1 := S3.x.c 1 _ rfl
      have q2 := S3.x.c 2 _ rfl
      have q3 := S3.x.c 3 _ rfl
      have q4 := S3.x.c 4 _ rfl
      have rl := S3.r.lt
      have E0 := ((((S3.res 0 (.int .i64 2)).res 1 (.int .i64 (p : Int))).res 2 (.int .i64 (u : Int))).res 3 (.int .i64 0)).res 4 (.slice none 0 0)
      have HE := Lib.hid E0
      clear E0 S3
      go_wp2_with fail
      exact bodyPost_ret (v := Ft.val (.mk 2 (p : Int) (u : Int) 0 none 0 [])) (by simp [results, Try.results56, go_sem, Ft.val, Ft.kd, Ft.k, Ft.u, Ft.v, Ft.a, Ft.cap, Ft.args, r0, r1, r2, r3, r4]) rfl ⟨.mk 2 (p : Int) (u : Int) 0 none 0 [], rfl, by have := treeB_pos d; simp [Ft.er, Ft.ers, Fm.size, Fm.sizes]; omega, HE.out.d, Ft.mine_leaf _ _ _ _ HE.out.d.grown.size (Nat.le_refl _)⟩
    · rw [hu]
      subst h2
      clear hu
      have z1 := T1.x.f
      have l1 := T1.x.lt
      go_wp2_with fail
      refine (drawBelow g 2 _ (by omega) (by omega) T1.d.cur).mono ?_
      rintro e v1 ⟨u, hu, rfl, hc, hw⟩
      have U1 := T1.draw hc hw
      have x10 := U1.x.c 0 _ rfl
      have y1 := U1.x.c 2 _ rfl
      have g1 := U1.x.f
      have S1 := U1.put 2 (.int .i64 (u : Int))
      simp only [List.set] at S1
      have hw' := hw.size
      clear hc hw z1 l1
      clear T1 x0
      have z3 := S1.x.f
      have l3 := S1.x.lt
      go_wp2_with fail
      refine (drawBelow g 3 _ (by omega) (by omega) S1.d.cur).mono ?_
      rintro e v3 ⟨p, hp, rfl, hc, hw⟩
      have U3 := S1.draw hc hw
      have x30 := U3.x.c 0 _ rfl
      have y3 := U3.x.c 1 _ rfl
      have g3 := U3.x.f
      have S3 := U3.put 1 (.int .i64 (p : Int))
      simp only [List.set] at S3
      have hw' := hw.size
      clear hc hw z3 l3
      have r0 := S3.r.c 0 _ rfl
      have r1 := S3.r.c 1 _ rfl
      have r2 := S3.r.c 2 _ rfl
      have r3 := S3.r.c 3 _ rfl
      have r4 := S3.r.c 4 _ rfl
      have rf := S3.r.f
      have q0 := S3.x.c 0 _ rfl
      have q1 := S3.x.c 1 _ rfl
      have q2 := S3.x.c 2 _ rfl
      have q3 := S3.x.c 3 _ rfl
      have q4 := S3.x.c 4 _ rfl
      have rl := S3.r.lt
      have E0 := ((((S3.res 0 (.int .i64 3)).res 1 (.int .i64 (p : Int))).res 2 (.int .i64 (u : Int))).res 3 (.int .i64 0)).res 4 (.slice none 0 0)
      have HE := Lib.hid E0
      clear E0 S3
      go_wp2_with fail
      exact bodyPost_ret (v := Ft.val (.mk 3 (p : Int) (u : Int) 0 none 0 [])) (by simp [results, Try.results56, go_sem, Ft.val, Ft.kd, Ft.k, Ft.u, Ft.v, Ft.a, Ft.cap, Ft.args, r0, r1, r2, r3, r4]) rfl ⟨.mk 3 (p : Int) (u : Int) 0 none 0 [], rfl, by have := treeB_pos d; simp [Ft.er, Ft.ers, Fm.size, Fm.sizes]; omega, HE.out.d, Ft.mine_leaf _ _ _ _ HE.out.d.grown.size (Nat.le_refl _)⟩
    · rw [hu]
      have e2 : (kd == 2) = false := by simpa using h2
      have e3 : (kd == 3) = false := by simpa using h3
      clear h2 h3 hu
      have z1 := T1.x.f
      have l1 := T1.x.lt
      go_wp2_with fail
      refine (drawBelow g 2 _ (by omega) (by omega) T1.d.cur).mono ?_
      rintro e v1 ⟨u, hu, rfl, hc, hw⟩
      have U1 := T1.draw hc hw
      have x10 := U1.x.c 0 _ rfl
      have y1 := U1.x.c 2 _ rfl
      have g1 := U1.x.f
      have S1 := U1.put 2 (.int .i64 (u : Int))
      simp only [List.set] at S1
      have hw' := hw.size
      clear hc hw z1 l1
      clear T1 x0
      have r0 := S1.r.c 0 _ rfl
      have r1 := S1.r.c 1 _ rfl
      have r2 := S1.r.c 2 _ rfl
      have r3 := S1.r.c 3 _ rfl
      have r4 := S1.r.c 4 _ rfl
      have rf := S1.r.f
      have q0 := S1.x.c 0 _ rfl
      have q1 := S1.x.c 1 _ rfl
      have q2 := S1.x.c 2 _ rfl
      have q3 := S1.x.c 3 _ rfl
      have q4 := S1.x.c 4 _ rfl
      have rl := S1.r.lt
      have E0 := ((((S1.res 0 (.int .i64 kd)).res 1 (.int .i64 0)).res 2 (.int .i64 (u : Int))).res 3 (.int .i64 0)).res 4 (.slice none 0 0)
      have HE := Lib.hid E0
      clear E0 S1
      go_wp2_with fail
      exact bodyPost_ret (v := Ft.val (.mk kd 0 (u : Int) 0 none 0 [])) (by simp [results, Try.results56, go_sem, Ft.val, Ft.kd, Ft.k, Ft.u, Ft.v, Ft.a, Ft.cap, Ft.args, r0, r1, r2, r3, r4]) rfl ⟨.mk kd 0 (u : Int) 0 none 0 [], rfl, by have := treeB_pos d; simp [Ft.er, Ft.ers, Fm.size, Fm.sizes]; omega, HE.out.d, Ft.mine_leaf _ _ _ _ HE.out.d.grown.size (Nat.le_refl _)⟩
    · rw [hu]
      have e2 : (kd == 2) = false := by simpa using h2
      have e3 : (kd == 3) = false := by simpa using h3
      clear h2 h3 hu
      have z1 := T1.x.f
      have l1 := T1.x.lt
      go_wp2_with fail
      refine (drawBelow g 2 _ (by omega) (by omega) T1.d.cur).mono ?_
      rintro e v1 ⟨u, hu, rfl, hc, hw⟩
      have U1 := T1.draw hc hw
      have x10 := U1.x.c 0 _ rfl
      have y1 := U1.x.c 2 _ rfl
      have g1 := U1.x.f
      have S1 := U1.put 2 (.int .i64 (u : Int))
      simp only [List.set] at S1
      have hw' := hw.size
      clear hc hw z1 l1
      clear T1 x0
      have z2 := S1.x.f
      have l2 := S1.x.lt
      go_wp2_with fail
      refine (drawBelow g 3 _ (by omega) (by omega) S1.d.cur).mono ?_
      rintro e v2 ⟨v, hv, rfl, hc, hw⟩
      have U2 := S1.draw hc hw
      have x20 := U2.x.c 0 _ rfl
      have y2 := U2.x.c 3 _ rfl
      have g2 := U2.x.f
      have S2 := U2.put 3 (.int .i64 (v : Int))
      simp only [List.set] at S2
      have hw' := hw.size
      clear hc hw z2 l2
      have r0 := S2.r.c 0 _ rfl
      have r1 := S2.r.c 1 _ rfl
      have r2 := S2.r.c 2 _ rfl
      have r3 := S2.r.c 3 _ rfl
      have r4 := S2.r.c 4 _ rfl
      have rf := S2.r.f
      have q0 := S2.x.c 0 _ rfl
      have q1 := S2.x.c 1 _ rfl
      have q2 := S2.x.c 2 _ rfl
      have q3 := S2.x.c 3 _ rfl
      have q4 := S2.x.c 4 _ rfl
      have rl := S2.r.lt
      have E0 := ((((S2.res 0 (.int .i64 kd)).res 1 (.int .i64 0)).res 2 (.int .i64 (u : Int))).res 3 (.int .i64 (v : Int))).res 4 (.slice none 0 0)
      have HE := Lib.hid E0
      clear E0 S2
      go_wp2_with fail
      exact bodyPost_ret (v := Ft.val (.mk kd 0 (u : Int) (v : Int) none 0 [])) (by simp [results, Try.results56, go_sem, Ft.val, Ft.kd, Ft.k, Ft.u, Ft.v, Ft.a, Ft.cap, Ft.args, r0, r1, r2, r3, r4]) rfl ⟨.mk kd 0 (u : Int) (v : Int) none 0 [], rfl, by have := treeB_pos d; simp [Ft.er, Ft.ers, Fm.size, Fm.sizes]; omega, HE.out.d, Ft.mine_leaf _ _ _ _ HE.out.d.grown.size (Nat.le_refl _)⟩
  | false =>
    go_wp2_with fail
    refine (drawBelow g 5 _ (by omega) (by omega) D.cur).mono ?_
    rintro e w1 ⟨k, hk, rfl, hc1, hw1⟩
    have D1 := D.draw hc1 hw1
    have R1 := R.turn (turn_drawn hw1) (.inr (by omega))
    clear hc1 hw1 D R
    obtain ⟨kd, hkd⟩ : ∃ kd : Int, 8 + (k : Int) = kd := ⟨_, rfl⟩
    obtain ⟨W2, hW2⟩ : ∃ W, w1.alloc (.cells #[.int .i64 kd, .int .i64 0, .int .i64 0, .int .i64 0, .slice none 0 0] 26) = W := ⟨_, rfl⟩
    have T1 : Two w g w1.heap.size zeroCells [.int .i64 kd, .int .i64 0, .int .i64 0, .int .i64 0, .slice none 0 0] W2 := by
      rw [← hW2]
      exact Two.new D1 R1 _ _
    have HW2 := Lib.hid hW2
    have hbx : w1.heap.size < W2.heap.size := T1.x.lt
    have hsb : w.heap.size < w1.heap.size := T1.lt
    have HKD := Lib.hid hkd
    have hmm : ∃ m : Nat, arityF kd = (m : Int) ∧ m ≤ 2 := by
      have : k = 0 ∨ k = 1 ∨ k = 2 ∨ k = 3 ∨ k = 4 := by omega
      rcases this with rfl | rfl | rfl | rfl | rfl <;> subst hkd
      · exact ⟨1, rfl, by omega⟩
      · exact ⟨2, rfl, by omega⟩
      · exact ⟨2, rfl, by omega⟩
      · exact ⟨1, rfl, by omega⟩
      · exact ⟨1, rfl, by omega⟩
    obtain ⟨m, hm, hm2⟩ := hmm
    have HM := Lib.hid hm
    have hk3 : k = 3 ∨ k = 4 ∨ (k ≠ 3 ∧ k ≠ 4) := by omega
    clear hW2 D1 R1 hkd hm
    rcases hk3 with h3 | h4 | ⟨h3, h4⟩
    · have e11 : ((8 : Int) + (k : Int) == 11) = true := by subst h3; rfl
      clear h3
      go_wp2_with fail
      rw [HKD.out, HW2.out]
      clear HW2
      generalize w1.heap.size = b at *
      refine (drawBelow g 3 _ (by omega) (by omega) T1.d.cur).mono ?_
      rintro e v1 ⟨u, hu, rfl, hc, hw⟩
      have U1 := T1.draw hc hw
      have y0 := U1.x.c 0 _ rfl
      have y1 := U1.x.c 2 _ rfl
      have g1 := U1.x.f
      have S1 := U1.put 2 (.int .i64 (u : Int))
      simp only [List.set] at S1
      have hw' := hw.size
      clear hc hw T1 e11
      go_wp2_with fail
      refine (specArityOf _ _).mono ?_
      rintro e w3 ⟨rfl, rfl⟩
      rw [HM.out]
      have hbs : b < (v1.setCell ⟨b, 2, none⟩ (.int .i64 (u : Int))).heap.size := S1.x.lt
      generalize v1.setCell ⟨b, 2, none⟩ (.int .i64 (u : Int)) = W3 at *
      clear y0 y1 g1 hw' hbx U1
      have ho0 := World.ownsRow_nil W3 (b + 1) 26 5
      go_wp2_with fail
      go_loopw [9] (fun i wr => ∃ (j : Nat) (v : Value) (ts : List Ft), j ≤ m ∧ i = .int .i64 j ∧ ts.length = j ∧ Two w g b zeroCells [.int .i64 kd, .int .i64 0, .int .i64 (u : Int), .int .i64 0, v] wr ∧ wr.ownsRow (b + 1) 26 5 v j (fmVals ts) ∧ Ft.Mines wr (b + 1) wr.heap.size v.ownBlock ts ∧ Fm.sizes (ts.map Ft.er) ≤ j * treeB d') (fun i _ => m - (intOf i).toNat)
      case atStart => exact ⟨0, .slice none 0 0, [], Nat.zero_le _, rfl, rfl, S1, ho0, by rw [Ft.Mines]; omega, by simp [Fm.sizes]⟩
      case round =>
        clear S1 ho0 hbs
        obtain ⟨j, v, ts, hj, rfl, hjl, T, hown, hmi, hsz⟩ := hrel
        obtain ⟨va, vc, rfl, hvc⟩ := own_form5 hown
        have HJL := Lib.hid hjl
        have HSZ := Lib.hid hsz
        by_cases hltj : j < m
        · have hbw := T.x.lt
          have TD := Lib.hid (T.below (Below.drew (Below.refl _ _)))
          have OD := Lib.hid (own_keeps hown (Below.drew (Below.refl _ _)))
          have MD := Lib.hid (hmi.below (Below.drew (Below.refl _ _)))
          have c4 := T.x.c 4 _ rfl
          have d4 := TD.out.x.c 4 _ rfl
          have f4 := T.x.f
          have e4 := TD.out.x.f
          have OW := Lib.hid hown
          clear hjl hsz T hown hmi hvc
          go_wp2_with fail
          go_region_law
            (first
              | (go_simp; go_at_call 56; (try rw [hdl]); (refine (IH.out g _ TD.out.d.cur).mono ?_); rintro e w4 ⟨t, rfl, hts, hdg, htm⟩; have T4 := TD.out.draw hdg.cur hdg.grown; have O4 := own_other OD.out hdg.grown (fun q hq e => by have := (OD.out.lt q hq).1; have := Option.some.inj e; omega); have M4 := Ft.Mines.turn (turn_drawn hdg.grown) ts MD.out (.inl (by omega)); have p4 := T4.x.c 4 _ rfl; have q4 := T4.x.f; have hw4 := hdg.grown.size; have hbw4 := T4.x.lt; simp at hw4)
              | (refine step_append_lies _ rfl (.tmp 69) (.tmp 74) 24 rfl (b + 1) 26 i0 _ 5 56 Try.underlying24 hi hz0 hz1 hz2 rfl (by decide) (.slice va j vc) j (fmVals ts) ?_ (O4.alloc _) ⟨w4.heap.size, 0, none⟩ 1 1 t.cells ?_ rfl ?_ ?_ (by omega) ?_ ?_ ?_ _ rfl ?_
                 · simp [Act.eval]
                 · simp [Act.eval]
                 · exact news_cells w4 t _
                 · exact cells_one t
                 · unfold maxLen; omega
                 · omega
                 · simp; omega
                 intro g9 cap9 w9 hown9 hg9 hat9 hlt9
                 have hal := (Below.refl w4.heap.size w4).alloc (Nat.le_refl _) (.cells t.cells.toArray 26)
                 have hz9 := hg9.size
                 have hrb : ∀ q, (Value.slice va j vc).ownBlock = some q → b + 1 ≤ q ∧ q < wr.heap.size := fun q hq => OW.out.lt q hq
                 have t9 : Turn (b + 1) wr.heap.size _ w9 := Turn.of_grown hg9 hrb
                 have T9 := (T4.below hal).turn t9 (Nat.lt_succ_self b)
                 have M9 := Ft.Mines.grown (M4.below hal) hg9
                 have X9 := Ft.Mine.turn t9 t (htm.below hal) (.inl (by simp))
                 have p9 := T9.x.c 4 _ rfl
                 have q9 := T9.x.f))
          all_goals
            simp at hz9
            have hg9' : ∀ q, (some g9 : Option Nat) = some q → (Value.slice va j vc).ownBlock = some q ∨ wr.heap.size ≤ q ∨ q < b + 1 := fun q hq => by
              have hq' := Option.some.inj hq
              subst hq'
              rcases hat9 with h | h
              · exact .inl h
              · simp at h
                exact .inr (.inl (by omega))
            have hg9'' : ∀ q, (some g9 : Option Nat) = some q → q < wr.heap.size ∨ w4.heap.size ≤ q := fun q hq => by
              have hq' := Option.some.inj hq
              subst hq'
              rcases hat9 with h | h
              · exact .inl (hrb g9 h).2
              · simp at h
                exact .inr (by omega)
            have M10 := Ft.Mines.snoc (by simp) X9 hg9'' (show w4.heap.size ≤ w9.heap.size by omega) ts (Ft.Mines.rebind ts M9 hg9')
            have ts9 := turn_set w9 b 4 (.slice (some ⟨g9, 0, none⟩) (j + 1) cap9)
            have M11 := Ft.Mines.turn ts9 (ts ++ [t]) M10 (.inl (Nat.le_refl _))
            have T11 := T9.put 4 (.slice (some ⟨g9, 0, none⟩) (j + 1) cap9)
            simp only [List.set] at T11
            have O11 := ownsRow_setCell_below hown9 (a := ⟨b, 4, none⟩) (Nat.lt_succ_self b) (.slice (some ⟨g9, 0, none⟩) (j + 1) cap9)
            have KEEP := Lib.hid (And.intro T11 (And.intro O11 M11))
            clear T11 O11 M11 M10 ts9 hg9'' hg9' T9 M9 X9 t9 hown9 hg9
            go_wp2_with fail
            go_roundw
            case rel => first | exact ⟨j + 1, _, ts ++ [t], by omega, by go_num, by simp [HJL.out], KEEP.out.1, by rw [fmVals_snoc]; exact KEEP.out.2.1, by have h := KEEP.out.2.2; simp at h ⊢; exact h, sizes_snoc HSZ.out hts⟩ | ((repeat apply Exists.intro); exact ⟨⟨j + 1, _, ts ++ [t], by omega, by go_num, by simp [HJL.out], KEEP.out.1, by rw [fmVals_snoc]; exact KEEP.out.2.1, by have h := KEEP.out.2.2; simp at h ⊢; exact h, sizes_snoc HSZ.out hts⟩, rfl⟩)
            case measure => simp [intOf]; omega
        · obtain rfl : j = m := by omega
          have q0 := T.x.c 0 _ rfl
          have q1 := T.x.c 1 _ rfl
          have q2 := T.x.c 2 _ rfl
          have q3 := T.x.c 3 _ rfl
          have q4 := T.x.c 4 _ rfl
          have r0 := T.r.c 0 _ rfl
          have r1 := T.r.c 1 _ rfl
          have r2 := T.r.c 2 _ rfl
          have r3 := T.r.c 3 _ rfl
          have r4 := T.r.c 4 _ rfl
          have rf := T.r.f
          have rl := T.r.lt
          have E0 := ((((T.res 0 (.int .i64 kd)).res 1 (.int .i64 0)).res 2 (.int .i64 (u : Int))).res 3 (.int .i64 0)).res 4 (.slice va j vc)
          have hTT := ((((turn_set wr w.heap.size 0 (.int .i64 kd)).trans (turn_set _ w.heap.size 1 (.int .i64 0))).trans (turn_set _ w.heap.size 2 (.int .i64 (u : Int)))).trans (turn_set _ w.heap.size 3 (.int .i64 0))).trans (turn_set _ w.heap.size 4 (.slice va j vc))
          have hM := Ft.Mines.turn hTT ts hmi (.inl (by omega))
          have hO := (OwnIn.of hown).turn hTT (.inr (by omega))
          have HE := Lib.hid (And.intro E0 (And.intro hM hO))
          have hbw := T.x.lt
          clear E0 T hTT hM hO hown hmi hjl hsz hltj
          go_wp2_with fail
          refine bodyPost_ret (v := .agg #[.int .i64 kd, .int .i64 0, .int .i64 (u : Int), .int .i64 0, .slice va j vc]) (by simp [results, Try.results56, go_sem, r0, r1, r2, r3, r4]) rfl ⟨.mk kd 0 (u : Int) 0 va vc ts, by simp [Ft.val, Ft.kd, Ft.k, Ft.u, Ft.v, Ft.a, Ft.cap, Ft.args, HJL.out], ?_, HE.out.1.d, ?_⟩
          · have h1 := HSZ.out
            have h2 : j * treeB d' ≤ 2 * treeB d' := Nat.mul_le_mul_right _ hm2
            rw [← HDD.out]
            simp only [Ft.er, Fm.size, Ft.ers_map, treeB]
            omega
          · rw [Ft.Mine, HJL.out]
            simp only [World.size_setCell]
            exact ⟨HE.out.2.2.mono (by omega) (Nat.le_refl _) (by simp), Ft.Mines.grow ts HE.out.2.1 (by omega) (Nat.le_refl _)⟩
    · have e11 : ((8 : Int) + (k : Int) == 11) = false := by subst h4; rfl
      have e12 : ((8 : Int) + (k : Int) == 12) = true := by subst h4; rfl
      clear h4
      go_wp2_with fail
      rw [HKD.out, HW2.out]
      clear HW2
      generalize w1.heap.size = b at *
      refine (drawBelow g 3 _ (by omega) (by omega) T1.d.cur).mono ?_
      rintro e v1 ⟨u, hu, rfl, hc, hw⟩
      have U1 := T1.draw hc hw
      have y0 := U1.x.c 0 _ rfl
      have y1 := U1.x.c 2 _ rfl
      have g1 := U1.x.f
      have S1 := U1.put 2 (.int .i64 (u : Int))
      simp only [List.set] at S1
      have hw' := hw.size
      clear hc hw T1 e11
      clear e12
      go_wp2_with fail
      refine (specArityOf _ _).mono ?_
      rintro e w3 ⟨rfl, rfl⟩
      rw [HM.out]
      have hbs : b < (v1.setCell ⟨b, 2, none⟩ (.int .i64 (u : Int))).heap.size := S1.x.lt
      generalize v1.setCell ⟨b, 2, none⟩ (.int .i64 (u : Int)) = W3 at *
      clear y0 y1 g1 hw' hbx U1
      have ho0 := World.ownsRow_nil W3 (b + 1) 26 5
      go_wp2_with fail
      go_loopw [9] (fun i wr => ∃ (j : Nat) (v : Value) (ts : List Ft), j ≤ m ∧ i = .int .i64 j ∧ ts.length = j ∧ Two w g b zeroCells [.int .i64 kd, .int .i64 0, .int .i64 (u : Int), .int .i64 0, v] wr ∧ wr.ownsRow (b + 1) 26 5 v j (fmVals ts) ∧ Ft.Mines wr (b + 1) wr.heap.size v.ownBlock ts ∧ Fm.sizes (ts.map Ft.er) ≤ j * treeB d') (fun i _ => m - (intOf i).toNat)
      case atStart => exact ⟨0, .slice none 0 0, [], Nat.zero_le _, rfl, rfl, S1, ho0, by rw [Ft.Mines]; omega, by simp [Fm.sizes]⟩
      case round =>
        clear S1 ho0 hbs
        obtain ⟨j, v, ts, hj, rfl, hjl, T, hown, hmi, hsz⟩ := hrel
        obtain ⟨va, vc, rfl, hvc⟩ := own_form5 hown
        have HJL := Lib.hid hjl
        have HSZ := Lib.hid hsz
        by_cases hltj : j < m
        · have hbw := T.x.lt
          have TD := Lib.hid (T.below (Below.drew (Below.refl _ _)))
          have OD := Lib.hid (own_keeps hown (Below.drew (Below.refl _ _)))
          have MD := Lib.hid (hmi.below (Below.drew (Below.refl _ _)))
          have c4 := T.x.c 4 _ rfl
          have d4 := TD.out.x.c 4 _ rfl
          have f4 := T.x.f
          have e4 := TD.out.x.f
          have OW := Lib.hid hown
          clear hjl hsz T hown hmi hvc
          go_wp2_with fail
          go_region_law
            (first
              | (go_simp; go_at_call 56; (try rw [hdl]); (refine (IH.out g _ TD.out.d.cur).mono ?_); rintro e w4 ⟨t, rfl, hts, hdg, htm⟩; have T4 := TD.out.draw hdg.cur hdg.grown; have O4 := own_other OD.out hdg.grown (fun q hq e => by have := (OD.out.lt q hq).1; have := Option.some.inj e; omega); have M4 := Ft.Mines.turn (turn_drawn hdg.grown) ts MD.out (.inl (by omega)); have p4 := T4.x.c 4 _ rfl; have q4 := T4.x.f; have hw4 := hdg.grown.size; have hbw4 := T4.x.lt; simp at hw4)
              | (refine step_append_lies _ rfl (.tmp 69) (.tmp 74) 24 rfl (b + 1) 26 i0 _ 5 56 Try.underlying24 hi hz0 hz1 hz2 rfl (by decide) (.slice va j vc) j (fmVals ts) ?_ (O4.alloc _) ⟨w4.heap.size, 0, none⟩ 1 1 t.cells ?_ rfl ?_ ?_ (by omega) ?_ ?_ ?_ _ rfl ?_
                 · simp [Act.eval]
                 · simp [Act.eval]
                 · exact news_cells w4 t _
                 · exact cells_one t
                 · unfold maxLen; omega
                 · omega
                 · simp; omega
                 intro g9 cap9 w9 hown9 hg9 hat9 hlt9
                 have hal := (Below.refl w4.heap.size w4).alloc (Nat.le_refl _) (.cells t.cells.toArray 26)
                 have hz9 := hg9.size
                 have hrb : ∀ q, (Value.slice va j vc).ownBlock = some q → b + 1 ≤ q ∧ q < wr.heap.size := fun q hq => OW.out.lt q hq
                 have t9 : Turn (b + 1) wr.heap.size _ w9 := Turn.of_grown hg9 hrb
                 have T9 := (T4.below hal).turn t9 (Nat.lt_succ_self b)
                 have M9 := Ft.Mines.grown (M4.below hal) hg9
                 have X9 := Ft.Mine.turn t9 t (htm.below hal) (.inl (by simp))
                 have p9 := T9.x.c 4 _ rfl
                 have q9 := T9.x.f))
          all_goals
            simp at hz9
            have hg9' : ∀ q, (some g9 : Option Nat) = some q → (Value.slice va j vc).ownBlock = some q ∨ wr.heap.size ≤ q ∨ q < b + 1 := fun q hq => by
              have hq' := Option.some.inj hq
              subst hq'
              rcases hat9 with h | h
              · exact .inl h
              · simp at h
                exact .inr (.inl (by omega))
            have hg9'' : ∀ q, (some g9 : Option Nat) = some q → q < wr.heap.size ∨ w4.heap.size ≤ q := fun q hq => by
              have hq' := Option.some.inj hq
              subst hq'
              rcases hat9 with h | h
              · exact .inl (hrb g9 h).2
              · simp at h
                exact .inr (by omega)
            have M10 := Ft.Mines.snoc (by simp) X9 hg9'' (show w4.heap.size ≤ w9.heap.size by omega) ts (Ft.Mines.rebind ts M9 hg9')
            have ts9 := turn_set w9 b 4 (.slice (some ⟨g9, 0, none⟩) (j + 1) cap9)
            have M11 := Ft.Mines.turn ts9 (ts ++ [t]) M10 (.inl (Nat.le_refl _))
            have T11 := T9.put 4 (.slice (some ⟨g9, 0, none⟩) (j + 1) cap9)
            simp only [List.set] at T11
            have O11 := ownsRow_setCell_below hown9 (a := ⟨b, 4, none⟩) (Nat.lt_succ_self b) (.slice (some ⟨g9, 0, none⟩) (j + 1) cap9)
            have KEEP := Lib.hid (And.intro T11 (And.intro O11 M11))
            clear T11 O11 M11 M10 ts9 hg9'' hg9' T9 M9 X9 t9 hown9 hg9
            go_wp2_with fail
            go_roundw
            case rel => first | exact ⟨j + 1, _, ts ++ [t], by omega, by go_num, by simp [HJL.out], KEEP.out.1, by rw [fmVals_snoc]; exact KEEP.out.2.1, by have h := KEEP.out.2.2; simp at h ⊢; exact h, sizes_snoc HSZ.out hts⟩ | ((repeat apply Exists.intro); exact ⟨⟨j + 1, _, ts ++ [t], by omega, by go_num, by simp [HJL.out], KEEP.out.1, by rw [fmVals_snoc]; exact KEEP.out.2.1, by have h := KEEP.out.2.2; simp at h ⊢; exact h, sizes_snoc HSZ.out hts⟩, rfl⟩)
            case measure => simp [intOf]; omega
        · obtain rfl : j = m := by omega
          have q0 := T.x.c 0 _ rfl
          have q1 := T.x.c 1 _ rfl
          have q2 := T.x.c 2 _ rfl
          have q3 := T.x.c 3 _ rfl
          have q4 := T.x.c 4 _ rfl
          have r0 := T.r.c 0 _ rfl
          have r1 := T.r.c 1 _ rfl
          have r2 := T.r.c 2 _ rfl
          have r3 := T.r.c 3 _ rfl
          have r4 := T.r.c 4 _ rfl
          have rf := T.r.f
          have rl := T.r.lt
          have E0 := ((((T.res 0 (.int .i64 kd)).res 1 (.int .i64 0)).res 2 (.int .i64 (u : Int))).res 3 (.int .i64 0)).res 4 (.slice va j vc)
          have hTT := ((((turn_set wr w.heap.size 0 (.int .i64 kd)).trans (turn_set _ w.heap.size 1 (.int .i64 0))).trans (turn_set _ w.heap.size 2 (.int .i64 (u : Int)))).trans (turn_set _ w.heap.size 3 (.int .i64 0))).trans (turn_set _ w.heap.size 4 (.slice va j vc))
          have hM := Ft.Mines.turn hTT ts hmi (.inl (by omega))
          have hO := (OwnIn.of hown).turn hTT (.inr (by omega))
          have HE := Lib.hid (And.intro E0 (And.intro hM hO))
          have hbw := T.x.lt
          clear E0 T hTT hM hO hown hmi hjl hsz hltj
          go_wp2_with fail
          refine bodyPost_ret (v := .agg #[.int .i64 kd, .int .i64 0, .int .i64 (u : Int), .int .i64 0, .slice va j vc]) (by simp [results, Try.results56, go_sem, r0, r1, r2, r3, r4]) rfl ⟨.mk kd 0 (u : Int) 0 va vc ts, by simp [Ft.val, Ft.kd, Ft.k, Ft.u, Ft.v, Ft.a, Ft.cap, Ft.args, HJL.out], ?_, HE.out.1.d, ?_⟩
          · have h1 := HSZ.out
            have h2 : j * treeB d' ≤ 2 * treeB d' := Nat.mul_le_mul_right _ hm2
            rw [← HDD.out]
            simp only [Ft.er, Fm.size, Ft.ers_map, treeB]
            omega
          · rw [Ft.Mine, HJL.out]
            simp only [World.size_setCell]
            exact ⟨HE.out.2.2.mono (by omega) (Nat.le_refl _) (by simp), Ft.Mines.grow ts HE.out.2.1 (by omega) (Nat.le_refl _)⟩
    · have e11 : ((8 : Int) + (k : Int) == 11) = false := by simp; omega
      have e12 : ((8 : Int) + (k : Int) == 12) = false := by simp; omega
      clear h3 h4
      go_wp2_with fail
      rw [HKD.out, HW2.out]
      clear HW2
      generalize w1.heap.size = b at *
      refine (specArityOf _ _).mono ?_
      rintro e w3 ⟨rfl, rfl⟩
      rw [HM.out]
      have hbs := hbx
      clear e11 e12 hbx
      have ho0 := World.ownsRow_nil w3 (b + 1) 26 5
      go_wp2_with fail
      go_loopw [9] (fun i wr => ∃ (j : Nat) (v : Value) (ts : List Ft), j ≤ m ∧ i = .int .i64 j ∧ ts.length = j ∧ Two w g b zeroCells [.int .i64 kd, .int .i64 0, .int .i64 0, .int .i64 0, v] wr ∧ wr.ownsRow (b + 1) 26 5 v j (fmVals ts) ∧ Ft.Mines wr (b + 1) wr.heap.size v.ownBlock ts ∧ Fm.sizes (ts.map Ft.er) ≤ j * treeB d') (fun i _ => m - (intOf i).toNat)
      case atStart => exact ⟨0, .slice none 0 0, [], Nat.zero_le _, rfl, rfl, T1, ho0, by rw [Ft.Mines]; omega, by simp [Fm.sizes]⟩
      case round =>
        clear T1 ho0 hbs
        obtain ⟨j, v, ts, hj, rfl, hjl, T, hown, hmi, hsz⟩ := hrel
        obtain ⟨va, vc, rfl, hvc⟩ := own_form5 hown
        have HJL := Lib.hid hjl
        have HSZ := Lib.hid hsz
        by_cases hltj : j < m
        · have hbw := T.x.lt
          have TD := Lib.hid (T.below (Below.drew (Below.refl _ _)))
          have OD := Lib.hid (own_keeps hown (Below.drew (Below.refl _ _)))
          have MD := Lib.hid (hmi.below (Below.drew (Below.refl _ _)))
          have c4 := T.x.c 4 _ rfl
          have d4 := TD.out.x.c 4 _ rfl
          have f4 := T.x.f
          have e4 := TD.out.x.f
          have OW := Lib.hid hown
          clear hjl hsz T hown hmi hvc
          go_wp2_with fail
          go_region_law
            (first
              | (go_simp; go_at_call 56; (try rw [hdl]); (refine (IH.out g _ TD.out.d.cur).mono ?_); rintro e w4 ⟨t, rfl, hts, hdg, htm⟩; have T4 := TD.out.draw hdg.cur hdg.grown; have O4 := own_other OD.out hdg.grown (fun q hq e => by have := (OD.out.lt q hq).1; have := Option.some.inj e; omega); have M4 := Ft.Mines.turn (turn_drawn hdg.grown) ts MD.out (.inl (by omega)); have p4 := T4.x.c 4 _ rfl; have q4 := T4.x.f; have hw4 := hdg.grown.size; have hbw4 := T4.x.lt; simp at hw4)
              | (refine step_append_lies _ rfl (.tmp 69) (.tmp 74) 24 rfl (b + 1) 26 i0 _ 5 56 Try.underlying24 hi hz0 hz1 hz2 rfl (by decide) (.slice va j vc) j (fmVals ts) ?_ (O4.alloc _) ⟨w4.heap.size, 0, none⟩ 1 1 t.cells ?_ rfl ?_ ?_ (by omega) ?_ ?_ ?_ _ rfl ?_
                 · simp [Act.eval]
                 · simp [Act.eval]
                 · exact news_cells w4 t _
                 · exact cells_one t
                 · unfold maxLen; omega
                 · omega
                 · simp; omega
                 intro g9 cap9 w9 hown9 hg9 hat9 hlt9
                 have hal := (Below.refl w4.heap.size w4).alloc (Nat.le_refl _) (.cells t.cells.toArray 26)
                 have hz9 := hg9.size
                 have hrb : ∀ q, (Value.slice va j vc).ownBlock = some q → b + 1 ≤ q ∧ q < wr.heap.size := fun q hq => OW.out.lt q hq
                 have t9 : Turn (b + 1) wr.heap.size _ w9 := Turn.of_grown hg9 hrb
                 have T9 := (T4.below hal).turn t9 (Nat.lt_succ_self b)
                 have M9 := Ft.Mines.grown (M4.below hal) hg9
                 have X9 := Ft.Mine.turn t9 t (htm.below hal) (.inl (by simp))
                 have p9 := T9.x.c 4 _ rfl
                 have q9 := T9.x.f))
          all_goals
            simp at hz9
            have hg9' : ∀ q, (some g9 : Option Nat) = some q → (Value.slice va j vc).ownBlock = some q ∨ wr.heap.size ≤ q ∨ q < b + 1 := fun q hq => by
              have hq' := Option.some.inj hq
              subst hq'
              rcases hat9 with h | h
              · exact .inl h
              · simp at h
                exact .inr (.inl (by omega))
            have hg9'' : ∀ q, (some g9 : Option Nat) = some q → q < wr.heap.size ∨ w4.heap.size ≤ q := fun q hq => by
              have hq' := Option.some.inj hq
              subst hq'
              rcases hat9 with h | h
              · exact .inl (hrb g9 h).2
              · simp at h
                exact .inr (by omega)
            have M10 := Ft.Mines.snoc (by simp) X9 hg9'' (show w4.heap.size ≤ w9.heap.size by omega) ts (Ft.Mines.rebind ts M9 hg9')
            have ts9 := turn_set w9 b 4 (.slice (some ⟨g9, 0, none⟩) (j + 1) cap9)
            have M11 := Ft.Mines.turn ts9 (ts ++ [t]) M10 (.inl (Nat.le_refl _))
            have T11 := T9.put 4 (.slice (some ⟨g9, 0, none⟩) (j + 1) cap9)
            simp only [List.set] at T11
            have O11 := ownsRow_setCell_below hown9 (a := ⟨b, 4, none⟩) (Nat.lt_succ_self b) (.slice (some ⟨g9, 0, none⟩) (j + 1) cap9)
            have KEEP := Lib.hid (And.intro T11 (And.intro O11 M11))
            clear T11 O11 M11 M10 ts9 hg9'' hg9' T9 M9 X9 t9 hown9 hg9
            go_wp2_with fail
            go_roundw
            case rel => first | exact ⟨j + 1, _, ts ++ [t], by omega, by go_num, by simp [HJL.out], KEEP.out.1, by rw [fmVals_snoc]; exact KEEP.out.2.1, by have h := KEEP.out.2.2; simp at h ⊢; exact h, sizes_snoc HSZ.out hts⟩ | ((repeat apply Exists.intro); exact ⟨⟨j + 1, _, ts ++ [t], by omega, by go_num, by simp [HJL.out], KEEP.out.1, by rw [fmVals_snoc]; exact KEEP.out.2.1, by have h := KEEP.out.2.2; simp at h ⊢; exact h, sizes_snoc HSZ.out hts⟩, rfl⟩)
            case measure => simp [intOf]; omega
        · obtain rfl : j = m := by omega
          have q0 := T.x.c 0 _ rfl
          have q1 := T.x.c 1 _ rfl
          have q2 := T.x.c 2 _ rfl
          have q3 := T.x.c 3 _ rfl
          have q4 := T.x.c 4 _ rfl
          have r0 := T.r.c 0 _ rfl
          have r1 := T.r.c 1 _ rfl
          have r2 := T.r.c 2 _ rfl
          have r3 := T.r.c 3 _ rfl
          have r4 := T.r.c 4 _ rfl
          have rf := T.r.f
          have rl := T.r.lt
          have E0 := ((((T.res 0 (.int .i64 kd)).res 1 (.int .i64 0)).res 2 (.int .i64 0)).res 3 (.int .i64 0)).res 4 (.slice va j vc)
          have hTT := ((((turn_set wr w.heap.size 0 (.int .i64 kd)).trans (turn_set _ w.heap.size 1 (.int .i64 0))).trans (turn_set _ w.heap.size 2 (.int .i64 0))).trans (turn_set _ w.heap.size 3 (.int .i64 0))).trans (turn_set _ w.heap.size 4 (.slice va j vc))
          have hM := Ft.Mines.turn hTT ts hmi (.inl (by omega))
          have hO := (OwnIn.of hown).turn hTT (.inr (by omega))
          have HE := Lib.hid (And.intro E0 (And.intro hM hO))
          have hbw := T.x.lt
          clear E0 T hTT hM hO hown hmi hjl hsz hltj
          go_wp2_with fail
          refine bodyPost_ret (v := .agg #[.int .i64 kd, .int .i64 0, .int .i64 0, .int .i64 0, .slice va j vc]) (by simp [results, Try.results56, go_sem, r0, r1, r2, r3, r4]) rfl ⟨.mk kd 0 0 0 va vc ts, by simp [Ft.val, Ft.kd, Ft.k, Ft.u, Ft.v, Ft.a, Ft.cap, Ft.args, HJL.out], ?_, HE.out.1.d, ?_⟩
          · have h1 := HSZ.out
            have h2 : j * treeB d' ≤ 2 * treeB d' := Nat.mul_le_mul_right _ hm2
            rw [← HDD.out]
            simp only [Ft.er, Fm.size, Ft.ers_map, treeB]
            omega
          · rw [Ft.Mine, HJL.out]
            simp only [World.size_setCell]
            exact ⟨HE.out.2.2.mono (by omega) (Nat.le_refl _) (by simp), Ft.Mines.grow ts HE.out.2.1 (by omega) (Nat.le_refl _)⟩
end Go.Proofs.Ythhhmlohfhioeaa
