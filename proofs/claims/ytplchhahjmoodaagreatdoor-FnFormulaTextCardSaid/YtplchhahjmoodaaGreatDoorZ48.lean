/-
  The program's reader of formulas: one node, and by recursion all of them.
-/
import Derived.Test.YtplchhahjmoodaaGreatDoorZ45
namespace Go.Proofs.YtplchhahjmoodaaGreatDoor
open Go Go.RowKit

/-- The words of the walk that are the same in each case: the result's box, and the part that was taken. -/
structure FStart (w0 W W0 w1 : World) (B R : Nat) (ss : List ByteArray) (va : Option Addr) (vca : Nat) (qs : List ByteArray) : Prop where
  res : BoxL w1 W.heap.size [.int .i64 0, .int .i64 0, .int .i64 0, .int .i64 0, .slice none 0 0]
  rd : RdG w0 w1 B R ss va vca qs
  tn : Turn R (R + 1) W w1
theorem GotF.any {w0 W : World} {B R : Nat} {ss : List ByteArray} {va : Option Addr} {vca n m : Nat} {ps qs : List ByteArray} {e : Ending} {W' : World} (h : GotF w0 B R ss va vca n ps W e W') (he : guessF ss n (listsP ps) = guessF ss m (listsP qs)) : GotF w0 B R ss va vca m qs W e W' := by
  obtain ⟨t, rs, h1, h2, h3, h4, h5, h6⟩ := h
  exact ⟨t, rs, h1, by rw [h2, he], by rw [h3, he], h4, h5, h6⟩
set_option maxRecDepth 100000 in
set_option maxHeartbeats 1000000 in
/-- A node that is no pair: its head was the first part. -/
theorem implNodeF (w0 : World) (B R : Nat) (ss : List ByteArray) (va : Option Addr) (vca n : Nat) (ps : List ByteArray) (W : World) (hW0 : GuessW ss va w0) (hlen : ss.length ≤ maxLen) (h : RdG w0 W B R ss va vca ps) (hd : ByteArray) (hhd : ps.headD ⟨#[]⟩ = hd) (hne : hd ≠ ⟨#[40]⟩)
    (hleaf : arityF (guessN ss hd.data.toList).kd ≠ 1 → guessF ss n (listsP ps) = (guessN ss hd.data.toList, listsP ps.tail))
    (hone : arityF (guessN ss hd.data.toList).kd = 1 → ∃ m, (∀ (V : World), RdG w0 V B R ss va vca ps.tail → Calls Tryz.prog 80 #[.pointer (some ⟨R, 0, none⟩)] V (GotF w0 B R ss va vca m ps.tail V)) ∧
      ∀ f qs, guessF ss m (listsP ps.tail) = (f, qs) → guessF ss n (listsP ps) = (.mk (guessN ss hd.data.toList).kd (guessN ss hd.data.toList).k (guessN ss hd.data.toList).u (guessN ss hd.data.toList).v [f], qs)) :
    Calls Tryz.prog 80 #[.pointer (some ⟨R, 0, none⟩)] W (GotF w0 B R ss va vca n ps W) := by
  obtain ⟨hRB, hBW, hwR, hpl, hps, _⟩ := h.bounds
  have hdsz : hd.size ≤ 1048576 := by
    rw [← hhd]
    cases ps with
    | nil => exact Nat.zero_le _
    | cons s r => exact hps s (by simp)
  have hcmp : (hd.toList == [40]) = false := by
    rw [ByteArray.toList_eq, beq_eq_false_iff_ne]
    intro e
    exact hne (text_inj (b := ⟨#[40]⟩) e)
  have HLEAF := Lib.hid hleaf
  have HONE := Lib.hid hone
  have hP0 := fun V => implPart w0 B R ss va vca ps V
  unfold PartEnd at hP0
  rw [hhd] at hP0
  have HP := Lib.hid hP0
  obtain ⟨f, hf⟩ : ∃ f, guessN ss hd.data.toList = f := ⟨_, rfl⟩
  have hN := fun V => implGuessNode ss va vca hd V hdsz hlen
  rw [hf] at HLEAF HONE hN
  have HN := Lib.hid hN
  have hfa : f.args = [] := by rw [← hf]; exact guessN_args ss _
  have HFA := Lib.hid hfa
  clear hleaf hone hP0 hN hhd hne hps hpl hf hfa
  go_enter Tryz.func80, Tryz.ntmps80
  go_wp2_with fail
  obtain ⟨W0, hW, hb0, br0⟩ := one_boxL5 W [.int .i64 0, .int .i64 0, .int .i64 0, .int .i64 0, .slice none 0 0] 27
  simp only [List.toArray] at hW
  rw [hW]
  clear hW
  have h0 := h.below hb0
  have hWW0 := br0.lt
  refine (HP.out W0 h0).mono ?_
  rintro e w1 ⟨rfl, h1, tn1, -⟩
  have hz0 := hb0.size
  have hz1 := tn1.size
  have br1 := br0.turn tn1 (.inr (by omega))
  have T1 : Turn R (R + 1) W w1 := (Turn.of_below hb0).trans tn1
  obtain ⟨pa, pca, h1x⟩ := id h1
  have c0 := h1x.box.c 0 _ rfl
  have hbase := h1x.base
  clear h1x
  go_wp2_with fail
  refine (HN.out w1 (hW0.keeps hbase)).mono ?_
  rintro e w2 ⟨rfl, hb2⟩
  have br2 := br1.below hb2
  have h2 := h1.below hb2
  have hz2 := hb2.size
  clear c0 hbase h1 br1
  go_wp2_with fail
  obtain ⟨W2, hW2, hb3, X2⟩ := one_boxL5 w2 [.int .i64 f.kd, .int .i64 f.k, .int .i64 f.u, .int .i64 f.v, .slice none 0 0] 27
  simp only [List.toArray] at hW2
  rw [hW2]
  have br3 := br2.below hb3
  have h3 := h2.below hb3
  have hz3 := hb3.size
  have hx2 := X2.lt
  have T3 : Turn R (R + 1) W W2 := (T1.trans (Turn.of_below hb2)).trans (Turn.of_below hb3)
  clear br2 h2 T1 hW2
  refine (implArityOf f.kd W2).mono ?_
  rintro e w3 ⟨rfl, hb4⟩
  have br4 := br3.below hb4
  have h4 := h3.below hb4
  have X4 := X2.below hb4
  have hz4 := hb4.size
  have T4 : Turn R (R + 1) W w3 := T3.trans (Turn.of_below hb4)
  clear br3 h3 X2 T3
  have x0 := X4.c 0 _ rfl
  have x1 := X4.c 1 _ rfl
  have x2 := X4.c 2 _ rfl
  have x3 := X4.c 3 _ rfl
  have x4 := X4.c 4 _ rfl
  have xf := X4.f
  have xl := X4.lt
  by_cases ha : arityF f.kd = 1
  · obtain ⟨m, hIH, hgs⟩ := HONE.out ha
    have HGS := Lib.hid hgs
    have HIH := Lib.hid hIH
    have hd1 : (arityF f.kd == 1) = true := beq_iff_eq.2 ha
    clear ha hgs hIH
    go_wp2_with fail
    refine (HIH.out w3 h4).mono ?_
    rintro e w4 ⟨t1, qs1, rfl, he1, hq1, hm1, h5, tn5⟩
    have HE1 := Lib.hid he1
    have HQ1 := Lib.hid hq1
    clear he1 hq1 x0 x1 x2 x3 x4 xf xl
    have hz5 := tn5.size
    have br5 := br4.turn tn5 (.inr (by omega))
    have X5 := X4.turn tn5 (.inr (by omega))
    have T5 := T4.trans tn5
    have x0 := X5.c 0 _ rfl
    have x1 := X5.c 1 _ rfl
    have x2 := X5.c 2 _ rfl
    have x3 := X5.c 3 _ rfl
    have x4 := X5.c 4 _ rfl
    have xf := X5.f
    have xl := X5.lt
    have r0 := br5.c 0 _ rfl
    have r1 := br5.c 1 _ rfl
    have r2 := br5.c 2 _ rfl
    have r3 := br5.c 3 _ rfl
    have r4 := br5.c 4 _ rfl
    have rf := br5.f
    have rl := br5.lt
    have hne : ¬ W.heap.size = w2.heap.size := by omega
    go_wp2_with fail
    have t0 := turn_set w4 w2.heap.size 4 (.slice (some ⟨w4.heap.size, 0, none⟩) 1 1)
    have br6 := br5.turn t0 (.inl (by omega))
    have m6 := Ft.Mine.turn t0 t1 hm1 (.inl (by omega))
    have h6 := h5.turn t0 (by omega)
    have T6 := T5.put (b := w2.heap.size) (by omega) 4 (.slice (some ⟨w4.heap.size, 0, none⟩) 1 1)
    have hs6 : (w4.setCell ⟨w2.heap.size, 4, none⟩ (.slice (some ⟨w4.heap.size, 0, none⟩) 1 1)).heap.size = w4.heap.size := by simp
    obtain ⟨V0, hV0⟩ : ∃ V, w4.setCell ⟨w2.heap.size, 4, none⟩ (.slice (some ⟨w4.heap.size, 0, none⟩) 1 1) = V := ⟨_, rfl⟩
    rw [hV0] at br6 m6 h6 T6 hs6 ⊢
    clear hV0
    have hTT := ((((turn_set V0 W.heap.size 0 (.int .i64 f.kd)).trans (turn_set _ W.heap.size 1 (.int .i64 f.k))).trans (turn_set _ W.heap.size 2 (.int .i64 f.u))).trans (turn_set _ W.heap.size 3 (.int .i64 f.v))).trans (turn_set _ W.heap.size 4 (.slice (some ⟨w4.heap.size, 0, none⟩) 1 1))
    have m7 := Ft.Mine.turn hTT t1 m6 (.inl (by omega))
    have h7 := h6.turn hTT hBW
    have TV := ((((T6.put (Nat.le_refl _) 0 (.int .i64 f.kd)).put (Nat.le_refl _) 1 (.int .i64 f.k)).put (Nat.le_refl _) 2 (.int .i64 f.u)).put (Nat.le_refl _) 3 (.int .i64 f.v)).put (Nat.le_refl _) 4 (.slice (some ⟨w4.heap.size, 0, none⟩) 1 1)
    have b7 := set5 br6 (.int .i64 f.kd) (.int .i64 f.k) (.int .i64 f.u) (.int .i64 f.v) (.slice (some ⟨w4.heap.size, 0, none⟩) 1 1) rfl
    obtain ⟨V, hV⟩ : ∃ V, ((((V0.setCell ⟨W.heap.size, 0, none⟩ (.int .i64 f.kd)).setCell ⟨W.heap.size, 1, none⟩ (.int .i64 f.k)).setCell ⟨W.heap.size, 2, none⟩ (.int .i64 f.u)).setCell ⟨W.heap.size, 3, none⟩ (.int .i64 f.v)).setCell ⟨W.heap.size, 4, none⟩ (.slice (some ⟨w4.heap.size, 0, none⟩) 1 1) = V := ⟨_, rfl⟩
    have hVs : V.heap.size = w4.heap.size := by rw [← hV, ← hs6]; simp
    rw [hV] at hTT m7 h7 TV b7 ⊢
    clear hV
    have M7 := mine_lit [t1] (mines_one m7) (by rw [hVs]; exact Nat.le_refl _) (by unfold maxLen; simp) f.kd f.k f.u f.v
    rw [hVs] at M7
    have hbx := (Below.refl V.heap.size V).alloc (Nat.le_refl _) (.cells (fmVals [t1]).toArray 27)
    have b8 := b7.below hbx
    have h8 := h7.below hbx
    have T8 := TV.news (.cells (fmVals [t1]).toArray 27)
    have hX : V.alloc (.cells (fmVals [t1]).toArray 27) = V.alloc (.cells #[.int .i64 t1.kd, .int .i64 t1.k, .int .i64 t1.u, .int .i64 t1.v, .slice t1.a t1.args.length t1.cap] 27) := rfl
    have hXs : (V.alloc (.cells (fmVals [t1]).toArray 27)).heap.size = w4.heap.size + 1 := by simp [hVs]
    have g1 : guessF ss m (listsP ps.tail) = (t1.er, listsP qs1) := Prod.ext HE1.out.symm HQ1.out.symm
    have g3 := HGS.out _ _ g1
    have HG : GotF w0 B R ss va vca n ps W (.returned (.agg #[.int .i64 f.kd, .int .i64 f.k, .int .i64 f.u, .int .i64 f.v, .slice (some ⟨w4.heap.size, 0, none⟩) 1 1])) (V.alloc (.cells (fmVals [t1]).toArray 27)) := by
      refine ⟨.mk f.kd f.k f.u f.v (some ⟨w4.heap.size, 0, none⟩) 1 [t1], qs1, rfl, ?_, by rw [g3], ?_, h8, T8⟩
      · rw [g3]
        simp [Ft.er, Ft.ers]
      · rw [hXs]
        exact Ft.Mine.grow _ M7 (by omega) (Nat.le_refl _) (by rw [hXs]; exact Nat.le_refl _)
    rw [hX] at HG b8
    have s0 := b8.c 0 _ rfl
    have s1 := b8.c 1 _ rfl
    have s2 := b8.c 2 _ rfl
    have s3 := b8.c 3 _ rfl
    have s4 := b8.c 4 _ rfl
    exact bodyPost_ret (v := .agg #[.int .i64 f.kd, .int .i64 f.k, .int .i64 f.u, .int .i64 f.v, .slice (some ⟨w4.heap.size, 0, none⟩) 1 1]) (by simp only [results, Tryz.results80]; simp [go_sem, s0, s1, s2, s3, s4]) rfl HG
  · have hd1 : (arityF f.kd == 1) = false := beq_eq_false_iff_ne.2 ha
    have HGL := Lib.hid (HLEAF.out ha)
    have r0 := br4.c 0 _ rfl
    have r1 := br4.c 1 _ rfl
    have r2 := br4.c 2 _ rfl
    have r3 := br4.c 3 _ rfl
    have r4 := br4.c 4 _ rfl
    have rf := br4.f
    have rl := br4.lt
    have hne : ¬ W.heap.size = w2.heap.size := by omega
    clear ha
    go_wp2_with fail
    have hTT := ((((turn_set w3 W.heap.size 0 (.int .i64 f.kd)).trans (turn_set _ W.heap.size 1 (.int .i64 f.k))).trans (turn_set _ W.heap.size 2 (.int .i64 f.u))).trans (turn_set _ W.heap.size 3 (.int .i64 f.v))).trans (turn_set _ W.heap.size 4 (.slice none 0 0))
    have h7 := h4.turn hTT hBW
    have TV := ((((T4.put (Nat.le_refl _) 0 (.int .i64 f.kd)).put (Nat.le_refl _) 1 (.int .i64 f.k)).put (Nat.le_refl _) 2 (.int .i64 f.u)).put (Nat.le_refl _) 3 (.int .i64 f.v)).put (Nat.le_refl _) 4 (.slice none 0 0)
    have b7 := set5 br4 (.int .i64 f.kd) (.int .i64 f.k) (.int .i64 f.u) (.int .i64 f.v) (.slice none 0 0) rfl
    obtain ⟨V, hV⟩ : ∃ V, ((((w3.setCell ⟨W.heap.size, 0, none⟩ (.int .i64 f.kd)).setCell ⟨W.heap.size, 1, none⟩ (.int .i64 f.k)).setCell ⟨W.heap.size, 2, none⟩ (.int .i64 f.u)).setCell ⟨W.heap.size, 3, none⟩ (.int .i64 f.v)).setCell ⟨W.heap.size, 4, none⟩ (.slice none 0 0) = V := ⟨_, rfl⟩
    rw [hV] at hTT h7 TV b7 ⊢
    clear hV
    have g3 := HGL.out
    have HG : GotF w0 B R ss va vca n ps W (.returned (.agg #[.int .i64 f.kd, .int .i64 f.k, .int .i64 f.u, .int .i64 f.v, .slice none 0 0])) V := by
      refine ⟨.mk f.kd f.k f.u f.v none 0 [], ps.tail, rfl, ?_, by rw [g3], Ft.mine_leaf _ _ _ _ TV.size (Nat.le_refl _), h7, TV⟩
      rw [g3]
      exact leaf_er f HFA.out
    have s0 := b7.c 0 _ rfl
    have s1 := b7.c 1 _ rfl
    have s2 := b7.c 2 _ rfl
    have s3 := b7.c 3 _ rfl
    have s4 := b7.c 4 _ rfl
    exact bodyPost_ret (v := .agg #[.int .i64 f.kd, .int .i64 f.k, .int .i64 f.u, .int .i64 f.v, .slice none 0 0]) (by simp only [results, Tryz.results80]; simp [go_sem, s0, s1, s2, s3, s4]) rfl HG
set_option maxRecDepth 100000 in
set_option maxHeartbeats 1000000 in
/-- A formula that begins a pair. -/
theorem implOpenF (w0 : World) (B R : Nat) (ss : List ByteArray) (va : Option Addr) (vca m : Nat) (rest : List ByteArray) (W : World) (hwt : HasFormulaWords w0) (h : RdG w0 W B R ss va vca (⟨#[40]⟩ :: rest))
    (hP2 : ∀ (V : World), RdG w0 V B R ss va vca rest → Calls Tryz.prog 119 #[.pointer (some ⟨R, 0, none⟩)] V (GotF w0 B R ss va vca (m + 1) (⟨#[40]⟩ :: rest) V)) :
    Calls Tryz.prog 80 #[.pointer (some ⟨R, 0, none⟩)] W (GotF w0 B R ss va vca (m + 1) (⟨#[40]⟩ :: rest) W) := by
  obtain ⟨hRB, hBW, hwR, _, _, _⟩ := h.bounds
  have hP0 := fun V => implPart w0 B R ss va vca (⟨#[40]⟩ :: rest) V
  unfold PartEnd at hP0
  have HP := Lib.hid hP0
  have HP2 := Lib.hid hP2
  clear hP0 hP2
  go_enter Tryz.func80, Tryz.ntmps80
  go_wp2_with fail
  obtain ⟨W0, hW, hb0, br0⟩ := one_boxL5 W [.int .i64 0, .int .i64 0, .int .i64 0, .int .i64 0, .slice none 0 0] 27
  simp only [List.toArray] at hW
  rw [hW]
  clear hW
  have h0 := h.below hb0
  have hWW0 := br0.lt
  refine (HP.out W0 h0).mono ?_
  rintro e w1 ⟨rfl, h1, tn1, -⟩
  have h1 : RdG w0 w1 B R ss va vca rest := h1
  have hz0 := hb0.size
  have hz1 := tn1.size
  have br1 := br0.turn tn1 (.inr (by omega))
  have T1 : Turn R (R + 1) W w1 := (Turn.of_below hb0).trans tn1
  simp only [List.headD_cons]
  go_wp2_with fail
  refine (HP2.out w1 h1).mono ?_
  rintro e w2 ⟨t, qs, rfl, he, hq, hm, h2, tn2⟩
  have HE := Lib.hid he
  have HQ := Lib.hid hq
  clear he hq
  have hz2 := tn2.size
  have br2 := br1.turn tn2 (.inr (by omega))
  have T2 := T1.trans tn2
  have r0 := br2.c 0 _ rfl
  have r1 := br2.c 1 _ rfl
  have r2 := br2.c 2 _ rfl
  have r3 := br2.c 3 _ rfl
  have r4 := br2.c 4 _ rfl
  have rf := br2.f
  have rl := br2.lt
  go_wp2_with fail
  have hTT := ((((turn_set w2 W.heap.size 0 (.int .i64 t.kd)).trans (turn_set _ W.heap.size 1 (.int .i64 t.k))).trans (turn_set _ W.heap.size 2 (.int .i64 t.u))).trans (turn_set _ W.heap.size 3 (.int .i64 t.v))).trans (turn_set _ W.heap.size 4 (.slice t.a t.args.length t.cap))
  have h7 := h2.turn hTT hBW
  have m7 := Ft.Mine.turn hTT t hm (.inl (by omega))
  have TV := ((((T2.put (Nat.le_refl _) 0 (.int .i64 t.kd)).put (Nat.le_refl _) 1 (.int .i64 t.k)).put (Nat.le_refl _) 2 (.int .i64 t.u)).put (Nat.le_refl _) 3 (.int .i64 t.v)).put (Nat.le_refl _) 4 (.slice t.a t.args.length t.cap)
  have b7 := set5 br2 (.int .i64 t.kd) (.int .i64 t.k) (.int .i64 t.u) (.int .i64 t.v) (.slice t.a t.args.length t.cap) rfl
  obtain ⟨V, hV⟩ : ∃ V, ((((w2.setCell ⟨W.heap.size, 0, none⟩ (.int .i64 t.kd)).setCell ⟨W.heap.size, 1, none⟩ (.int .i64 t.k)).setCell ⟨W.heap.size, 2, none⟩ (.int .i64 t.u)).setCell ⟨W.heap.size, 3, none⟩ (.int .i64 t.v)).setCell ⟨W.heap.size, 4, none⟩ (.slice t.a t.args.length t.cap) = V := ⟨_, rfl⟩
  have hVs : V.heap.size = w2.heap.size := by rw [← hV]; simp
  rw [hV] at hTT h7 m7 TV b7 ⊢
  clear hV
  have HG : GotF w0 B R ss va vca (m + 1) (⟨#[40]⟩ :: rest) W (.returned t.val) V :=
    ⟨t, qs, rfl, HE.out, HQ.out, Ft.Mine.grow _ m7 (by omega) (by rw [hVs]; exact Nat.le_refl _) (Nat.le_refl _), h7, TV⟩
  have s0 := b7.c 0 _ rfl
  have s1 := b7.c 1 _ rfl
  have s2 := b7.c 2 _ rfl
  have s3 := b7.c 3 _ rfl
  have s4 := b7.c 4 _ rfl
  exact bodyPost_ret (v := t.val) (by simp only [results, Tryz.results80]; simp [go_sem, s0, s1, s2, s3, s4]) rfl HG
theorem arity_zero : arityF 0 ≠ 1 := by decide
/-- The program's reader of formulas. -/
theorem implFormulaF (w0 : World) (B R : Nat) (ss : List ByteArray) (va : Option Addr) (vca : Nat) (hW0 : GuessW ss va w0) (hlen : ss.length ≤ maxLen) : ∀ (n : Nat) (W : World) (ps : List ByteArray), ps.length ≤ n → RdG w0 W B R ss va vca ps →
    Calls Tryz.prog 80 #[.pointer (some ⟨R, 0, none⟩)] W (GotF w0 B R ss va vca n ps W) := by
  have hnil : ∀ (n : Nat) (W : World), RdG w0 W B R ss va vca [] → Calls Tryz.prog 80 #[.pointer (some ⟨R, 0, none⟩)] W (GotF w0 B R ss va vca n [] W) := fun n W h => by
    have hk : (guessN ss (⟨#[]⟩ : ByteArray).data.toList).kd = 0 := by
      show (guessN ss []).kd = 0
      rw [guessN_nil]
      rfl
    refine implNodeF w0 B R ss va vca n [] W hW0 hlen h ⟨#[]⟩ rfl (by intro e; have := congrArg ByteArray.size e; simp [ByteArray.size] at this) (fun _ => guessF_none ss n) (fun ha => ?_)
    rw [hk] at ha
    exact (arity_zero ha).elim
  intro n
  induction n with
  | zero =>
    intro W ps hl h
    have hp : ps = [] := List.eq_nil_of_length_eq_zero (by omega)
    subst hp
    exact hnil 0 W h
  | succ m ih =>
    intro W ps hl h
    cases ps with
    | nil => exact hnil _ W h
    | cons p rest =>
      have hl' : rest.length ≤ m := by simpa using hl
      by_cases hp : p = ⟨#[40]⟩
      · subst hp
        exact implOpenF w0 B R ss va vca m rest W hW0.words h (fun V hV => implPairF w0 B R ss va vca m rest V hW0.words ih hl' hV)
      · have hpl : p.data.toList ≠ [40] := fun e => hp (text_inj (b := ⟨#[40]⟩) e)
        refine implNodeF w0 B R ss va vca (m + 1) (p :: rest) W hW0 hlen h p rfl hp (fun ha => ?_) (fun ha => ⟨m, fun V hV => ih V rest hl' hV, fun f qs hg => ?_⟩)
        · exact guessF_leaf hpl ha
        · exact guessF_one hpl ha hg
end Go.Proofs.YtplchhahjmoodaaGreatDoor
