/-
  The model's action that frees a cell.
  The model's tests of a heap; what it does, for every kind of statement.
-/
import Derived.Lib.QuietBelow
import Derived.Test.YtpmmjaceehlpiaaGreatDoorF15
namespace Go.Proofs.YtpmmjaceehlpiaaGreatDoor
open Go Go.RowKit Go.ChangeShapes Go.WideShapes Go.ChangeAt

theorem posFrom_count (n : Int) : ∀ (ns : List Int) (k : Nat), (posFrom n k ns).length = ns.count n
  | [], k => by simp [posFrom]
  | z :: zs, k => by
    rw [posFrom, List.count_cons]
    have := posFrom_count n zs (k + 1)
    by_cases h : z = n
    · rw [if_pos h, List.length_cons, this]
      simp [h]
    · rw [if_neg h, this]
      simp [h]
/-- Another variable holds the cell too. -/
theorem twice_iff {pa c : Nat} {vs : List Int} (hp : pa < vs.length) (h : vs[pa] = (c : Int)) : 1 < (posFrom (c : Int) 0 vs).length ↔ (c : Int) ∈ vs.set pa (-1) := by
  rw [posFrom_count, ← List.count_pos_iff, List.count_set hp, h]
  have h1 : ((-1 : Int) == (c : Int)) = false := by simp only [beq_eq_false_iff_ne, ne_eq]; omega
  simp only [h1, beq_self_eq_true, if_true, Bool.false_eq_true, if_false]
  omega

set_option maxRecDepth 100000 in
set_option maxHeartbeats 1600000 in
theorem specFree {lo hi pa : Nat} {a b : Option Addr} {ca cb : Nat} {vs zs : List Int} {w : World} (h : HeapIn lo hi w a ca b cb (intVals vs) (intVals zs)) (hp : pa < vs.length) (hv4 : vs.length ≤ 4) (hz6 : zs.length ≤ 6) (hgv : goodB zs vs = true) (hgz : goodB zs zs = true) (hn : vs.getD pa (-1) ≠ -1) :
    Calls Tryz.prog 137 #[heV a vs.length ca b zs.length cb, .int .i64 pa] w (Acted lo hi (blocksH a b vs.length ca zs.length cb) (freeS pa vs zs) w) := by
  rw [getD_cell hp] at hn
  obtain ⟨g, rfl, hg1, hg2⟩ := h.v.block_ (by rw [intVals_length]; omega)
  have hhi := h.v.1
  have n0 : ¬ w.heap.size = g := by omega
  have n1 : ¬ w.heap.size + 1 = g := by omega
  have hsrc := h.v.cellInt pa hp
  obtain ⟨c, hc, hcl⟩ := var_cell hp hgv hn
  rw [hc] at hsrc
  have HC := Lib.hid hc
  have htw := twice_iff hp hc
  clear hn hc
  obtain ⟨q, rfl, hq1, hq2⟩ := h.z.block_ (by rw [intVals_length]; omega)
  obtain ⟨W0, hW0, hb0, bn0, bp0⟩ := two_boxL w [.slice (some ⟨g, 0, none⟩) vs.length ca, .slice (some ⟨q, 0, none⟩) zs.length cb] [.slice none 0 0, .slice none 0 0] 30 30
  replace hW0 : ((w.alloc (.cells #[.slice (some ⟨g, 0, none⟩) vs.length ca, .slice (some ⟨q, 0, none⟩) zs.length cb] 30)).alloc (.cells #[.slice none 0 0, .slice none 0 0] 30)) = W0 := hW0
  have h0 := h.turn (lo' := hi) (hi' := hi) (Turn.of_below hb0) (.inl (Nat.le_refl _))
  have T0 := TurnB.of_below (lo := lo) (hi := hi) (S := blocksH (some ⟨g, 0, none⟩) (some ⟨q, 0, none⟩) vs.length ca zs.length cb) hb0
  have el : (vs.set pa (-1)).length = vs.length := List.length_set
  have k0 := bn0.c 0 _ rfl
  have k1 := bn0.c 1 _ rfl
  have hsrc0 := h0.v.cellInt pa hp
  rw [HC.out] at hsrc0
  have hgv' : goodB zs (vs.set pa (-1)) = true := by
    rw [goodB, List.all_eq_true]
    intro x hx
    rcases List.mem_or_eq_of_mem_set hx with hx | rfl
    · have := goodB_at hgv hx
      simpa using this
    · simp
  have hbv := good_range hz6 hgv'
  have hbz := good_range hz6 hgz
  have HBV := Lib.hid hbv
  have HBZ := Lib.hid hbz
  have hpl := posFrom_length (c : Int) vs 0
  clear h hgv' hgv hgz hbv hbz hsrc
  go_enter Tryz.func137, Tryz.ntmps137
  go_wp2_with fail
  clear hW0
  refine (specPositions (some ⟨g, 0, none⟩) ca vs (c : Int) W0 (by omega) h0.rows.v).mono ?_
  rintro e w1 ⟨ag, cg, rfl, hcg, hg, hb1⟩
  rw [intVals_length] at hcg ⊢
  clear hg
  have h1 := h0.turn (lo' := hi) (hi' := hi) (Turn.of_below (hb1.mono (by have := hb0.size; omega))) (.inl (Nat.le_refl _))
  have T1 := T0.trans (TurnB.of_below hb1)
  have bn1 := bn0.below hb1
  have bp1 := bp0.below hb1
  have k0 := bn1.c 0 _ rfl
  have k1 := bn1.c 1 _ rfl
  have r0 := bp1.c 0 _ rfl
  have r1 := bp1.c 1 _ rfl
  have rf := bp1.f
  have hs1 := bp1.lt
  clear bn0 bp0 h0 T0 hb0 hb1 hsrc0
  generalize (posFrom (c : Int) 0 vs).length = n at *
  by_cases hgt : 1 < n
  · have hgtI : (1 : Int) < (n : Int) := by omega
    have HR := Lib.hid (free_used (zs := zs) hp HC.out (.inl (htw.1 hgt)))
    clear htw hgt
    go_wp2
    refine bodyPost_ret (v := .tuple #[heV none 0 0 none 0 0, .int .i64 5]) (by simp [results, Tryz.results137, go_sem, r0, r1]) rfl ?_
    rw [HR.out]
    refine acted_bad ?_
    repeat (first | with_reducible exact T1 | refine TurnB.setNew ?_ (by omega))
  · have hgtI : ¬ (1 : Int) < (n : Int) := by omega
    obtain ⟨m2, hm2⟩ : ∃ m2, decide ((c : Int) ∈ zs) = m2 := ⟨_, rfl⟩
    have HM2 := Lib.hid hm2
    have HM1 := Lib.hid (mt htw.2 hgt)
    clear hm2 htw hgt
    go_wp2_with fail
    refine (specHas (some ⟨q, 0, none⟩) cb zs (c : Int) _ (by omega) h1.rows.z).mono ?_
    rw [HM2.out]
    rintro e w2 ⟨rfl, hb2⟩
    have h2 := h1.turn (lo' := hi) (hi' := hi) (Turn.of_below (hb2.mono (by omega))) (.inl (Nat.le_refl _))
    have T2 := T1.trans (TurnB.of_below hb2)
    have bn2 := bn1.below hb2
    have bp2 := bp1.below hb2
    clear k0 k1 r0 r1 rf hs1 h1 T1 bn1 bp1 hb2
    have k0 := bn2.c 0 _ rfl
    have k1 := bn2.c 1 _ rfl
    have r0 := bp2.c 0 _ rfl
    have r1 := bp2.c 1 _ rfl
    have rf := bp2.f
    have hs2 := bp2.lt
    cases m2
    case' true =>
      have HR := Lib.hid (free_used hp HC.out (.inr (of_decide_eq_true HM2.out)))
      go_wp2
      refine bodyPost_ret (v := .tuple #[heV none 0 0 none 0 0, .int .i64 5]) (by simp [results, Tryz.results137, go_sem, r0, r1]) rfl ?_
      rw [HR.out]
      refine acted_bad ?_
      repeat (first | with_reducible exact T2 | refine TurnB.setNew ?_ (by omega))
    case' false =>
      have HR := Lib.hid (free_ok hp HC.out (fun hh => hh.elim HM1.out (of_decide_eq_false HM2.out)))
      have hold := h2.v.cellInt pa hp
      have hfr := h2.v.frozen_ pa
      have h3 := h2.setV (k := pa) (-1)
      have T3 := T2.trans (turnB_at (k := pa) (.int .i64 (-1)) hg1 hg2 (.inl rfl))
      have bn3 := bn2.turnB (turnB_at (w := w2) (k := pa) (S := fun k => k = g) (.int .i64 (-1)) hg1 hg2 rfl) n0
      have bp3 := bp2.turnB (turnB_at (w := w2) (k := pa) (S := fun k => k = g) (.int .i64 (-1)) hg1 hg2 rfl) n1
      go_wp2_with fail
      have hwo := specWithout c (some ⟨g, 0, none⟩) (some ⟨q, 0, none⟩) ca cb (vs.set pa (-1)) zs (w2.setCell ⟨g, pa, none⟩ (.int .i64 (-1))) (by omega) hz6 hcl HBV.out HBZ.out h3.rows
      rw [el] at hwo
      refine hwo.mono ?_
      rintro e w3 ⟨xa, xca, xb, xcb, rfl, h4, hb4⟩
      have hs3 : (w2.setCell ⟨g, pa, none⟩ (.int .i64 (-1))).heap.size = w2.heap.size := by simp
      have bp4 := bp3.below hb4
      have T4 := T3.trans (TurnB.of_below hb4)
      rw [hs3] at h4
      have hbl := h4.blocks
      clear hwo r0 r1 rf k0 k1 bp2 bn2 bp3 bn3 h3 T3 hs3 hb4
      have q0 := bp4.c 0 _ rfl
      have q1 := bp4.c 1 _ rfl
      have qf := bp4.f
      have h4' := h4.mono (lo' := lo) (by omega) (Nat.le_refl _) (Nat.le_refl _)
      have hne : ∀ k, blocksH xa xb ((vs.set pa (-1)).map (lowC c)).length xca ((zs.eraseIdx c).map (lowC c)).length xcb k → k ≠ w.heap.size + 1 := fun k hk => by have := hbl k hk; omega
      have hX := (h4'.setNot (Q := w.heap.size + 1) (i := 0) (u := .slice xa ((vs.set pa (-1)).map (lowC c)).length xca) hne).setNot (Q := w.heap.size + 1) (i := 1) (u := .slice xb ((zs.eraseIdx c).map (lowC c)).length xcb) hne
      have HX := Lib.hid hX
      have T5 := (T4.setNew (Q := w.heap.size + 1) (i := 0) (u := .slice xa ((vs.set pa (-1)).map (lowC c)).length xca) (by omega)).setNew (Q := w.heap.size + 1) (i := 1) (u := .slice xb ((zs.eraseIdx c).map (lowC c)).length xcb) (by omega)
      clear hX hne h4' h4
      generalize hvv : (vs.set pa (-1)).map (lowC c) = us at *
      generalize hzz : (zs.eraseIdx c).map (lowC c) = ys at *
      clear hvv hzz
      go_wp2
      refine bodyPost_ret (v := .tuple #[heV xa us.length xca xb ys.length xcb, .int .i64 0]) (by simp [results, Tryz.results137, go_sem, q0, q1]) rfl ?_
      rw [HR.out]
      exact acted_of rfl rfl (by simpa using HX.out) T5 (fun k hk => .inr (by have := hbl k (blocksH_any hk); omega))

set_option maxRecDepth 100000 in
set_option maxHeartbeats 1600000 in
theorem specDo_8 {lo hi pa pb : Nat} {a b : Option Addr} {ca cb : Nat} {vs zs : List Int} (sa sb : ByteArray) {w : World} (h : HeapIn lo hi w a ca b cb (intVals vs) (intVals zs)) (hp : pa < vs.length) (hv4 : vs.length ≤ 4) (hz6 : zs.length ≤ 6) (hgv : goodB zs vs = true) (hgz : goodB zs zs = true) (hn : vs.getD pa (-1) ≠ -1) :
    Calls Tryz.prog 108 #[stV 8 sa sb, heV a vs.length ca b zs.length cb, .int .i64 pa, .int .i64 pb] w (Acted lo hi (blocksH a b vs.length ca zs.length cb) (freeS pa vs zs) w) := by
  have hhi := h.v.1
  have hbo := h.blocks
  obtain ⟨W0, hW0, hb0, bs0, bn0, bp0⟩ := three_boxL w [.int .i64 8, .string sa, .string sb] [.slice a vs.length ca, .slice b zs.length cb] [.slice none 0 0, .slice none 0 0] 83 30 30
  replace hW0 : (((w.alloc (.cells #[.int .i64 8, .string sa, .string sb] 83)).alloc (.cells #[.slice a vs.length ca, .slice b zs.length cb] 30)).alloc (.cells #[.slice none 0 0, .slice none 0 0] 30)) = W0 := hW0
  have h0 := h.turn (lo' := hi) (hi' := hi) (Turn.of_below hb0) (.inl (Nat.le_refl _))
  have T0 := TurnB.of_below (lo := lo) (hi := hi) (S := blocksH a b vs.length ca zs.length cb) hb0
  have s0 := bs0.c 0 _ rfl
  have k0 := bn0.c 0 _ rfl
  have k1 := bn0.c 1 _ rfl
  have hl0 := bp0.lt
  clear h
  go_enter Tryz.func108, Tryz.ntmps108
  go_wp2_with fail
  clear hW0
  refine (specFree h0 hp hv4 hz6 hgv hgz hn).mono ?_
  rintro e w1 ⟨xa, xca, xb, xcb, rfl, h1, t1, hbl⟩
  obtain ⟨c9, us, ys, hr9⟩ : ∃ (c9 : Int) (us ys : List Int), freeS pa vs zs = (c9, us, ys) := ⟨_, _, _, rfl⟩
  rw [hr9] at h1 hbl ⊢
  try rw [hr9]
  simp only at h1 hbl
  have HR := Lib.hid hr9
  have hne : ∀ k, blocksH xa xb us.length xca ys.length xcb k → k ≠ w.heap.size + 2 := fun k hk e => by
    rcases hbl k hk with q | q
    · have := hbo _ q
      omega
    · omega
  have bp1 := bp0.turn t1.t (.inr (by omega))
  have bs1 := t1.size
  have T1 := T0.trans t1
  clear hr9 h0 T0 t1 bp0 bn0 bs0 s0 k0 k1 hbo hb0
  have r0 := bp1.c 0 _ rfl
  have r1 := bp1.c 1 _ rfl
  have rf := bp1.f
  have hl1 := bp1.lt
  have hl2 : w.heap.size + 1 + 1 < w1.heap.size + 1 := by omega
  have hl3 : ¬ w1.heap.size = w.heap.size + 1 + 1 := by omega
  have hX := (h1.setNot (Q := w.heap.size + 1 + 1) (i := 0) (u := .slice xa us.length xca) hne).setNot (Q := w.heap.size + 1 + 1) (i := 1) (u := .slice xb ys.length xcb) hne
  have hal := (Below.refl ((w1.setCell ⟨w.heap.size + 1 + 1, 0, none⟩ (.slice xa us.length xca)).setCell ⟨w.heap.size + 1 + 1, 1, none⟩ (.slice xb ys.length xcb)).heap.size ((w1.setCell ⟨w.heap.size + 1 + 1, 0, none⟩ (.slice xa us.length xca)).setCell ⟨w.heap.size + 1 + 1, 1, none⟩ (.slice xb ys.length xcb))).alloc (Nat.le_refl _) (.cells #[.slice xa us.length xca, .slice xb ys.length xcb] 30)
  have HX := Lib.hid ((hX.below hal).mono (Nat.le_refl _) (by simp) (Nat.le_refl _))
  have T2 := ((T1.setNew (Q := w.heap.size + 1 + 1) (i := 0) (u := .slice xa us.length xca) (by omega)).setNew (Q := w.heap.size + 1 + 1) (i := 1) (u := .slice xb ys.length xcb) (by omega)).trans (TurnB.of_below hal)
  have HT := Lib.hid T2
  have HB := Lib.hid (((bp1.set 0 (.slice xa us.length xca)).set 1 (.slice xb ys.length xcb)).below hal)
  clear hX hal h1 T1 T2
  go_wp2
  have e0 := HB.out.c 0 _ rfl
  have e1 := HB.out.c 1 _ rfl
  refine bodyPost_ret (v := .tuple #[heV xa us.length xca xb ys.length xcb, .int .i64 c9]) (by clear r0 r1; simp [results, Tryz.results108, go_sem, e0, e1]) rfl ?_
  rw [HR.out]
  exact ⟨xa, xca, xb, xcb, rfl, HX.out, HT.out, fun k hk => (hbl k hk).imp id fun q => by omega⟩
end Go.Proofs.YtpmmjaceehlpiaaGreatDoor

namespace Go.Proofs.YtpmmjaceehlpiaaGreatDoor
open Go Go.RowKit Go.ChangeShapes Go.WideShapes Go.ChangeAt

theorem specMax (x : Int) (w : World) : Calls Tryz.prog 103 #[.int .i64 0, .int .i64 x] w fun e w' => e = .returned (.int .i64 (x.toNat : Int)) ∧ w = w' := by
  by_cases h : 0 > x
  · have e : (x.toNat : Int) = 0 := by omega
    rw [e]
    go_enter Tryz.func103, Tryz.ntmps103
    go_wp2
    go_ret
    exact ⟨rfl, rfl⟩
  · have e : (x.toNat : Int) = x := by omega
    rw [e]
    go_enter Tryz.func103, Tryz.ntmps103
    go_wp2
    go_ret
    exact ⟨rfl, rfl⟩
/-- Whether a test holds for two cells. -/
def testB (k x y : Int) : Bool := if k = 9 then decide (x = -1) else if k = 10 then !decide (x = -1) else if k = 11 then decide (x = y) else !decide (x = y)
theorem specTest (k x y : Int) (w : World) : Calls Tryz.prog 106 #[.int .i64 k, .int .i64 x, .int .i64 y] w fun e w' => e = .returned (.bool (testB k x y)) ∧ w = w' := by
  by_cases h9 : k = 9
  · subst h9
    go_enter Tryz.func106, Tryz.ntmps106
    go_wp2
    go_ret
    exact ⟨by simp only [testB, reduceIte, Int.reduceEq]; rfl, rfl⟩
  · have b9 : (k == 9) = false := by simpa using h9
    by_cases h10 : k = 10
    · subst h10
      go_enter Tryz.func106, Tryz.ntmps106
      go_wp2
      go_ret
      exact ⟨by simp only [testB, reduceIte, Int.reduceEq]; rfl, rfl⟩
    · have b10 : (k == 10) = false := by simpa using h10
      by_cases h11 : k = 11
      · subst h11
        go_enter Tryz.func106, Tryz.ntmps106
        go_wp2
        go_ret
        exact ⟨by simp only [testB, reduceIte, Int.reduceEq]; rfl, rfl⟩
      · have b11 : (k == 11) = false := by simpa using h11
        have hR : testB k x y = !decide (x = y) := by simp [testB, h9, h10, h11]
        have HR := Lib.hid hR
        clear hR h9 h10 h11
        go_enter Tryz.func106, Tryz.ntmps106
        go_wp2
        go_ret
        exact ⟨by rw [HR.out]; rfl, rfl⟩
/-- Whether a statement follows a null pointer. -/
def nullB (k x y : Int) : Bool := if k = 5 then decide (y = -1) else if k = 6 ∨ k = 7 ∨ k = 8 then decide (x = -1) else false
theorem specNull {pa pb : Nat} {a b : Option Addr} {ca cb : Nat} {vs zs : List Int} (k : Int) (sa sb : ByteArray) {w : World} (h : HeapAt w a b vs zs) (hp : pa < vs.length) (hq : pb < vs.length) :
    Calls Tryz.prog 107 #[stV k sa sb, heV a vs.length ca b zs.length cb, .int .i64 pa, .int .i64 pb] w (GaveX (.bool (nullB k (vs.getD pa (-1)) (vs.getD pb (-1)))) w) := by
  rw [getD_cell hp, getD_cell hq]
  obtain ⟨g, o, rfl, hg, hc⟩ := h.v pa _ (intVals_at vs pa hp)
  obtain ⟨g', o', e, hg', hc'⟩ := h.v pb _ (intVals_at vs pb hq)
  obtain ⟨rfl, rfl⟩ : g = g' ∧ o = o' := by
    injection e with e
    injection e with e1 e2
    exact ⟨e1, e2⟩
  have n0 : ¬ w.heap.size = g := by omega
  have n1 : ¬ w.heap.size + 1 = g := by omega
  clear e hg'
  have hB : Below w.heap.size w ((w.alloc (.cells #[.int .i64 k, .string sa, .string sb] 83)).alloc (.cells #[.slice (some ⟨g, o, none⟩) vs.length ca, .slice b zs.length cb] 30)) := two_below w _ _
  have HB := Lib.hid hB
  clear hB
  generalize vs[pa] = x at *
  generalize vs[pb] = y at *
  by_cases h5 : k = 5
  · subst h5
    go_enter Tryz.func107, Tryz.ntmps107
    go_wp2
    go_ret
    exact ⟨by simp only [nullB, reduceIte, Int.reduceEq, or_false]; rfl, HB.out⟩
  · have b5 : (k == 5) = false := by simpa using h5
    by_cases h6 : k = 6
    · subst h6
      go_enter Tryz.func107, Tryz.ntmps107
      go_wp2
      go_ret
      exact ⟨by simp only [nullB, reduceIte, Int.reduceEq, or_false]; rfl, HB.out⟩
    · have b6 : (k == 6) = false := by simpa using h6
      by_cases h7 : k = 7
      · subst h7
        go_enter Tryz.func107, Tryz.ntmps107
        go_wp2
        go_ret
        exact ⟨by simp only [nullB, reduceIte, Int.reduceEq, or_true, or_false]; rfl, HB.out⟩
      · have b7 : (k == 7) = false := by simpa using h7
        by_cases h8 : k = 8
        · subst h8
          go_enter Tryz.func107, Tryz.ntmps107
          go_wp2
          go_ret
          exact ⟨by simp only [nullB, reduceIte, Int.reduceEq, or_true]; rfl, HB.out⟩
        · have b8 : (k == 8) = false := by simpa using h8
          have hR : nullB k x y = false := by simp [nullB, h5, h6, h7, h8]
          have HR := Lib.hid hR
          clear hR h5 h6 h7 h8
          go_enter Tryz.func107, Tryz.ntmps107
          go_wp2
          go_ret
          exact ⟨by rw [HR.out]; rfl, HB.out⟩

theorem do_blocked {k : Int} {pa pb : Nat} {vs zs : List Int} (h1 : isTestS k = true) (h : testB k (vs.getD pa (-1)) (vs.getD pb (-1)) = false) : doS k pa pb vs zs = badC 1 := by
  rcases isTestS_four h1 with rfl | rfl | rfl | rfl
  all_goals
    unfold testB at h
    unfold doS
    simp at h
    simp [h]
theorem do_passed {k : Int} {pa pb : Nat} {vs zs : List Int} (h1 : isTestS k = true) (h : testB k (vs.getD pa (-1)) (vs.getD pb (-1)) = true) : doS k pa pb vs zs = (0, vs, zs) := by
  rcases isTestS_four h1 with rfl | rfl | rfl | rfl
  all_goals
    unfold testB at h
    unfold doS
    simp at h
    simp [h]
theorem do_null {k : Int} {pa pb : Nat} {vs zs : List Int} (h : nullB k (vs.getD pa (-1)) (vs.getD pb (-1)) = true) : doS k pa pb vs zs = badC 2 := by
  unfold nullB at h
  by_cases h5 : k = 5
  · subst h5
    simp at h
    unfold doS
    simp [h]
  · rw [if_neg h5] at h
    by_cases h6 : k = 6 ∨ k = 7 ∨ k = 8
    · rw [if_pos h6] at h
      rcases h6 with rfl | rfl | rfl
      all_goals
        simp at h
        unfold doS
        simp [h, linkS, freeS]
    · rw [if_neg h6] at h
      cases h
theorem do_full {pa pb : Nat} {vs zs : List Int} (h : zs.length = 6) : doS 3 pa pb vs zs = badC 6 := by
  unfold doS
  simp [h]

theorem specDo {lo hi pa pb : Nat} {a b : Option Addr} {ca cb : Nat} {vs zs : List Int} {k : Int} (sa sb : ByteArray) {w : World} (h : HeapIn lo hi w a ca b cb (intVals vs) (intVals zs)) (hp : pa < vs.length) (hq : pb < vs.length) (hv4 : vs.length ≤ 4) (hz6 : zs.length ≤ 6) (hgv : goodB zs vs = true) (hgz : goodB zs zs = true)
    (hk : 1 ≤ k ∧ k ≤ 12) (hb : isTestS k = true → testB k (vs.getD pa (-1)) (vs.getD pb (-1)) = true) (hn : nullB k (vs.getD pa (-1)) (vs.getD pb (-1)) = false) (hf : k = 3 → zs.length ≠ 6) :
    Calls Tryz.prog 108 #[stV k sa sb, heV a vs.length ca b zs.length cb, .int .i64 pa, .int .i64 pb] w (Acted lo hi (blocksH a b vs.length ca zs.length cb) (doS k pa pb vs zs) w) := by
  cases hT : isTestS k with
  | true =>
    rw [do_passed hT (hb hT)]
    exact specDo_skip sa sb h hp hq (.inr (isTestS_true.1 hT))
  | false =>
    have hT' : ¬ (9 ≤ k ∧ k ≤ 12) := fun e => by rw [isTestS_true.2 e] at hT; cases hT
    have : k = 1 ∨ k = 2 ∨ k = 3 ∨ k = 4 ∨ k = 5 ∨ k = 6 ∨ k = 7 ∨ k = 8 := by omega
    rcases this with rfl | rfl | rfl | rfl | rfl | rfl | rfl | rfl
    · exact specDo_skip sa sb h hp hq (.inl rfl)
    · exact specDo_2 sa sb h hp hq
    · rw [show doS 3 pa pb vs zs = (0, vs.set pa (zs.length : Int), zs ++ [-1]) by unfold doS; simp [hf rfl]]
      exact specDo_3 sa sb h hp hq hz6
    · exact specDo_4 sa sb h hp hq
    · have hn' : vs.getD pb (-1) ≠ -1 := by simpa [nullB] using hn
      rw [show doS 5 pa pb vs zs = (0, vs.set pa (nextC zs (vs.getD pb (-1))), zs) from (by unfold doS; rw [if_neg (by decide), if_neg (by decide), if_neg (by decide), if_neg (by decide), if_pos rfl, if_neg hn'])]
      exact specDo_5 sa sb h hp hq hgv hn'
    · have hn' : vs.getD pa (-1) ≠ -1 := by simpa [nullB] using hn
      rw [show doS 6 pa pb vs zs = (0, vs, zs.set (vs.getD pa (-1)).toNat (-1)) from (by unfold doS; rw [if_neg (by decide), if_neg (by decide), if_neg (by decide), if_neg (by decide), if_neg (by decide), if_pos rfl, if_neg hn'])]
      exact specDo_6 sa sb h hp hq hgv hn'
    · exact specDo_7 sa sb h hp hq hgv hz6 (by simpa [nullB] using hn)
    · exact specDo_8 sa sb h hp hv4 hz6 hgv hgz (by simpa [nullB] using hn)
end Go.Proofs.YtpmmjaceehlpiaaGreatDoor
