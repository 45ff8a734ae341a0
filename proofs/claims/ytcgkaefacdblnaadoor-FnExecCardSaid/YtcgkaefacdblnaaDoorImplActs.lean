/-
  The program's actions on a heap that may be written, one a kind of statement.
-/
import Derived.Test.YtcgkaefacdblnaaDoorActs
import Derived.Test.YtcgkaefacdblnaaDoorImplHeap
import Derived.Test.YtcgkaefacdblnaaDoorShelf
import Derived.Deep.RegionHeld3
namespace Go.Proofs.YtcgkaefacdblnaaDoor
open Go Go.RowKit Go.ChangeShapes Go.WideShapes Go.ChangeAt

theorem acted_ok {lo hi : Nat} {S : Nat → Prop} {w W1 w' : World} {a b : Option Addr} {ca cb : Nat} {vs zs : List Int} (h : HeapIn lo hi W1 a ca b cb (intVals vs) (intVals zs)) (t : TurnB lo hi S w W1) (hb : Below W1.heap.size W1 w') (hS : ∀ k, blocksH a b vs.length ca zs.length cb k → S k ∨ w.heap.size ≤ k) :
    Acted lo hi S (0, vs, zs) w (.returned (.tuple #[heV a vs.length ca b zs.length cb, .int .i64 0])) w' :=
  ⟨a, ca, b, cb, rfl, (h.below hb).mono (Nat.le_refl _) (Nat.le_trans h.v.1 hb.size) (Nat.le_refl _), t.trans (TurnB.of_below hb), hS⟩
theorem acted_to {lo hi n m : Nat} {S : Nat → Prop} {w W1 w' : World} {a b : Option Addr} {ca cb : Nat} {vs zs : List Int} (h : HeapIn lo hi W1 a ca b cb (intVals vs) (intVals zs)) (t : TurnB lo hi S w W1) (hn : vs.length = n) (hm : zs.length = m) (hb : Below W1.heap.size W1 w') (hS : ∀ k, blocksH a b vs.length ca zs.length cb k → S k ∨ w.heap.size ≤ k := by intro k hk; exact Or.inl (blocksH_any hk)) :
    Acted lo hi S (0, vs, zs) w (.returned (.tuple #[heV a n ca b m cb, .int .i64 0])) w' := by
  subst hn hm
  exact acted_ok h t hb hS
theorem two_below (w : World) (x y : Obj) : Below w.heap.size w ((w.alloc x).alloc y) := ((Below.refl _ _).alloc (Nat.le_refl _) _).alloc (by simp) _
theorem getD_cell {l : List Int} {k : Nat} (h : k < l.length) : l.getD k (-1) = l[k] := by simp [h]
/-- A variable's cell, if it is one. -/
theorem var_cell {zs vs : List Int} {k : Nat} (hk : k < vs.length) (hg : goodB zs vs = true) (hn : vs[k] ≠ -1) : ∃ c : Nat, vs[k] = (c : Int) ∧ c < zs.length := by
  rcases goodB_at hg (List.getElem_mem hk) with h | h
  · exact absurd h hn
  · exact isC_nat h

theorem HeapIn.setNot {lo hi : Nat} {W : World} {a b : Option Addr} {ca cb : Nat} {vs zs : List Int} {Q i : Nat} {u : Value} (h : HeapIn lo hi W a ca b cb (intVals vs) (intVals zs)) (hne : ∀ k, blocksH a b vs.length ca zs.length cb k → k ≠ Q) :
    HeapIn lo hi (W.setCell ⟨Q, i, none⟩ u) a ca b cb (intVals vs) (intVals zs) := by
  have hv := h.v
  have hz := h.z
  have hap := h.apart
  rw [intVals_length, intVals_length] at hap
  rw [intVals_length] at hv hz
  refine ⟨?_, ?_, ?_⟩
  · rw [intVals_length]
    exact ⟨by simpa using hv.1, own_other hv.2.1 (grown_cell (grown_self W (some Q))) (fun k hk e => hne k (.inl hk) (Option.some.inj e)), hv.2.2⟩
  · rw [intVals_length]
    exact ⟨by simpa using hz.1, own_other hz.2.1 (grown_cell (grown_self W (some Q))) (fun k hk e => hne k (.inr hk) (Option.some.inj e)), hz.2.2⟩
  · rw [intVals_length, intVals_length]
    exact hap
theorem acted_of {lo hi n m : Nat} {S : Nat → Prop} {w w' : World} {a b : Option Addr} {ca cb : Nat} {vs zs : List Int} (hn : vs.length = n) (hm : zs.length = m) (h : HeapIn lo w'.heap.size w' a ca b cb (intVals vs) (intVals zs)) (t : TurnB lo hi S w w') (hS : ∀ k, blocksH a b vs.length ca zs.length cb k → S k ∨ w.heap.size ≤ k := by intro k hk; exact Or.inl (blocksH_any hk)) :
    Acted lo hi S (0, vs, zs) w (.returned (.tuple #[heV a n ca b m cb, .int .i64 0])) w' := by
  subst hn hm
  exact ⟨a, ca, b, cb, rfl, h, t, hS⟩
theorem HeapIn.blocks {lo hi : Nat} {W : World} {a b : Option Addr} {ca cb : Nat} {vs zs : List Int} (h : HeapIn lo hi W a ca b cb (intVals vs) (intVals zs)) : ∀ k, blocksH a b vs.length ca zs.length cb k → lo ≤ k ∧ k < hi := by
  have hv := h.v
  have hz := h.z
  rw [intVals_length] at hv hz
  rintro k (e | e)
  · exact ⟨(hv.2.1.lt k e).1, hv.2.2 k e⟩
  · exact ⟨(hz.2.1.lt k e).1, hz.2.2 k e⟩
/-- The answer is written into a box that is new to w. -/
theorem heap_box {lo hi Q : Nat} {S : Nat → Prop} {w W2 : World} {a b : Option Addr} {ca cb : Nat} {vs zs : List Int} {u v : Value} (h2 : HeapIn lo hi W2 a ca b cb (intVals vs) (intVals zs)) (T2 : TurnB lo hi S w W2) (hhi : hi ≤ w.heap.size) (hQ : w.heap.size ≤ Q) :
    HeapIn lo ((W2.setCell ⟨Q, 0, none⟩ u).setCell ⟨Q, 1, none⟩ v).heap.size ((W2.setCell ⟨Q, 0, none⟩ u).setCell ⟨Q, 1, none⟩ v) a ca b cb (intVals vs) (intVals zs) ∧ TurnB lo hi S w ((W2.setCell ⟨Q, 0, none⟩ u).setCell ⟨Q, 1, none⟩ v) := by
  have hbl := h2.blocks
  have hs : ((W2.setCell ⟨Q, 0, none⟩ u).setCell ⟨Q, 1, none⟩ v).heap.size = W2.heap.size := by simp
  refine ⟨?_, (T2.setNew hQ).setNew hQ⟩
  rw [hs]
  exact ((h2.setNot (Q := Q) fun k hk => by have := hbl k hk; omega).setNot (Q := Q) fun k hk => by have := hbl k hk; omega).mono (Nat.le_refl _) h2.v.1 (by rw [hs]; exact Nat.le_refl _)
theorem HeapIn.draws {lo hi : Nat} {W : World} {a b : Option Addr} {ca cb : Nat} {vs zs : List Value} (h : HeapIn lo hi W a ca b cb vs zs) : HeapIn lo hi W.drew a ca b cb vs zs := h.below (Below.drew (Below.refl _ _))
set_option maxHeartbeats 800000 in
theorem implDoSkip {lo hi : Nat} {a b : Option Addr} {ca cb : Nat} {vs zs : List Int} (x y : Int) {w : World} (h : HeapIn lo hi w a ca b cb (intVals vs) (intVals zs)) :
    Calls Tryd.prog 72 #[heV a vs.length ca b zs.length cb, .int .i64 x, .int .i64 y] w (Acted lo hi (blocksH a b vs.length ca zs.length cb) (0, vs, zs) w) := by
  go_enter Tryd.func72, Tryd.ntmps72
  go_wp2
  refine bodyPost_ret (v := .tuple #[heV a vs.length ca b zs.length cb, .int .i64 0]) (by simp [results, Tryd.results72, go_sem]) rfl ?_
  refine acted_to h (TurnB.of_below (Below.refl _ _)) rfl rfl ?_
  repeat (first | with_reducible exact Below.refl _ _ | refine Below.drew ?_ | refine Below.alloc ?_ (by simp <;> omega) _ | refine Below.setCell ?_ (by simp <;> omega) _)

set_option maxHeartbeats 800000 in
theorem implDoNull {lo hi pa : Nat} {a b : Option Addr} {ca cb : Nat} {vs zs : List Int} (y : Int) {w : World} (h : HeapIn lo hi w a ca b cb (intVals vs) (intVals zs)) (hp : pa < vs.length) :
    Calls Tryd.prog 73 #[heV a vs.length ca b zs.length cb, .int .i64 pa, .int .i64 y] w (Acted lo hi (blocksH a b vs.length ca zs.length cb) (0, vs.set pa (-1), zs) w) := by
  obtain ⟨g, rfl, hg1, hg2⟩ := h.v.block_ (by rw [intVals_length]; omega)
  have hhi := h.v.1
  have n0 : ¬ w.heap.size = g := by omega
  have n1 : ¬ w.heap.size + 1 = g := by omega
  have n2 : g < w.heap.size := by omega
  have n3 : g < w.heap.size + 1 := by omega
  have hold := h.v.cellInt pa hp
  have hfr := h.v.frozen_ pa
  go_enter Tryd.func73, Tryd.ntmps73
  go_wp2
  refine bodyPost_ret (v := .tuple #[heV (some ⟨g, 0, none⟩) vs.length ca b zs.length cb, .int .i64 0]) (by simp [results, Tryd.results73, go_sem]) rfl ?_
  refine acted_to (h.setV (k := pa) (-1)) (turnB_at _ hg1 hg2 (.inl rfl)) List.length_set rfl ?_
  repeat (first | with_reducible exact Below.refl _ _ | refine Below.drew ?_ | refine Below.alloc ?_ (by simp <;> omega) _ | refine Below.setCell ?_ (by simp <;> omega) _)

set_option maxHeartbeats 800000 in
theorem implDoCopy {lo hi pa pb : Nat} {a b : Option Addr} {ca cb : Nat} {vs zs : List Int} {w : World} (h : HeapIn lo hi w a ca b cb (intVals vs) (intVals zs)) (hp : pa < vs.length) (hq : pb < vs.length) :
    Calls Tryd.prog 75 #[heV a vs.length ca b zs.length cb, .int .i64 pa, .int .i64 pb] w (Acted lo hi (blocksH a b vs.length ca zs.length cb) (0, vs.set pa (vs.getD pb (-1)), zs) w) := by
  rw [getD_cell hq]
  obtain ⟨g, rfl, hg1, hg2⟩ := h.v.block_ (by rw [intVals_length]; omega)
  have hhi := h.v.1
  have n0 : ¬ w.heap.size = g := by omega
  have n1 : ¬ w.heap.size + 1 = g := by omega
  have n2 : g < w.heap.size := by omega
  have n3 : g < w.heap.size + 1 := by omega
  have hold := h.v.cellInt pa hp
  have hsrc := h.v.cellInt pb hq
  have hfr := h.v.frozen_ pa
  go_enter Tryd.func75, Tryd.ntmps75
  go_wp2
  go_region
  all_goals
    go_wp2
    refine bodyPost_ret (v := .tuple #[heV (some ⟨g, 0, none⟩) vs.length ca b zs.length cb, .int .i64 0]) (by simp [results, Tryd.results75, go_sem]) rfl ?_
    refine acted_to (h.setV (k := pa) vs[pb]) (turnB_at _ hg1 hg2 (.inl rfl)) List.length_set rfl ?_
    repeat (first | with_reducible exact Below.refl _ _ | refine Below.drew ?_ | refine Below.alloc ?_ (by simp <;> omega) _ | refine Below.setCell ?_ (by simp <;> omega) _)

set_option maxHeartbeats 800000 in
theorem implDoNext {lo hi pa pb : Nat} {a b : Option Addr} {ca cb : Nat} {vs zs : List Int} {w : World} (h : HeapIn lo hi w a ca b cb (intVals vs) (intVals zs)) (hp : pa < vs.length) (hq : pb < vs.length) (hgv : goodB zs vs = true) :
    Calls Tryd.prog 76 #[heV a vs.length ca b zs.length cb, .int .i64 pa, .int .i64 pb] w (Acted lo hi (blocksH a b vs.length ca zs.length cb) (if vs.getD pb (-1) = -1 then badC 2 else (0, vs.set pa (nextC zs (vs.getD pb (-1))), zs)) w) := by
  rw [getD_cell hq]
  obtain ⟨g, rfl, hg1, hg2⟩ := h.v.block_ (by rw [intVals_length]; omega)
  have hhi := h.v.1
  have n0 : ¬ w.heap.size = g := by omega
  have n1 : ¬ w.heap.size + 1 = g := by omega
  have n2 : g < w.heap.size := by omega
  have n3 : g < w.heap.size + 1 := by omega
  have hold := h.v.cellInt pa hp
  have hsrc := h.v.cellInt pb hq
  have hfr := h.v.frozen_ pa
  by_cases hn : vs[pb] = -1
  · rw [if_pos hn]
    rw [hn] at hsrc
    clear hn
    go_enter Tryd.func76, Tryd.ntmps76
    go_wp2
    refine bodyPost_ret (v := .tuple #[heV none 0 0 none 0 0, .int .i64 2]) (by simp [results, Tryd.results76, go_sem]) rfl ?_
    refine acted_bad (TurnB.of_below ?_)
    repeat (first | with_reducible exact Below.refl _ _ | refine Below.drew ?_ | refine Below.alloc ?_ (by simp <;> omega) _ | refine Below.setCell ?_ (by simp <;> omega) _)
  · rw [if_neg hn]
    obtain ⟨c, hc, hcl⟩ := var_cell hq hgv hn
    have hne : ((c : Int) == -1) = false := by simp only [beq_eq_false_iff_ne, ne_eq]; omega
    rw [hc] at hsrc ⊢
    rw [nextC_at hcl]
    clear hn
    obtain ⟨q, rfl, hq1, hq2⟩ := h.z.block_ (by rw [intVals_length]; omega)
    have m0 : ¬ w.heap.size = q := by omega
    have m1 : ¬ w.heap.size + 1 = q := by omega
    have m2 : q < w.heap.size := by omega
    have m3 : q < w.heap.size + 1 := by omega
    have hnx := h.z.cellInt c hcl
    go_enter Tryd.func76, Tryd.ntmps76
    go_wp2
    go_region
    all_goals
      go_wp2
      refine bodyPost_ret (v := .tuple #[heV (some ⟨g, 0, none⟩) vs.length ca (some ⟨q, 0, none⟩) zs.length cb, .int .i64 0]) (by simp [results, Tryd.results76, go_sem]) rfl ?_
      refine acted_to (h.setV (k := pa) zs[c]) (turnB_at _ hg1 hg2 (.inl rfl)) List.length_set rfl ?_
      repeat (first | with_reducible exact Below.refl _ _ | refine Below.drew ?_ | refine Below.alloc ?_ (by simp <;> omega) _ | refine Below.setCell ?_ (by simp <;> omega) _)

set_option maxHeartbeats 800000 in
theorem implDoCut {lo hi pa : Nat} {a b : Option Addr} {ca cb : Nat} {vs zs : List Int} (y : Int) {w : World} (h : HeapIn lo hi w a ca b cb (intVals vs) (intVals zs)) (hp : pa < vs.length) (hgv : goodB zs vs = true) :
    Calls Tryd.prog 77 #[heV a vs.length ca b zs.length cb, .int .i64 pa, .int .i64 y] w (Acted lo hi (blocksH a b vs.length ca zs.length cb) (if vs.getD pa (-1) = -1 then badC 2 else (0, vs, zs.set (vs.getD pa (-1)).toNat (-1))) w) := by
  rw [getD_cell hp]
  obtain ⟨g, rfl, hg1, hg2⟩ := h.v.block_ (by rw [intVals_length]; omega)
  have hhi := h.v.1
  have n0 : ¬ w.heap.size = g := by omega
  have n1 : ¬ w.heap.size + 1 = g := by omega
  have n2 : g < w.heap.size := by omega
  have n3 : g < w.heap.size + 1 := by omega
  have hsrc := h.v.cellInt pa hp
  by_cases hn : vs[pa] = -1
  · rw [if_pos hn]
    rw [hn] at hsrc
    clear hn
    go_enter Tryd.func77, Tryd.ntmps77
    go_wp2
    refine bodyPost_ret (v := .tuple #[heV none 0 0 none 0 0, .int .i64 2]) (by simp [results, Tryd.results77, go_sem]) rfl ?_
    refine acted_bad (TurnB.of_below ?_)
    repeat (first | with_reducible exact Below.refl _ _ | refine Below.drew ?_ | refine Below.alloc ?_ (by simp <;> omega) _ | refine Below.setCell ?_ (by simp <;> omega) _)
  · rw [if_neg hn]
    obtain ⟨c, hc, hcl⟩ := var_cell hp hgv hn
    have hne : ((c : Int) == -1) = false := by simp only [beq_eq_false_iff_ne, ne_eq]; omega
    rw [hc] at hsrc ⊢
    rw [Int.toNat_natCast]
    clear hn
    obtain ⟨q, rfl, hq1, hq2⟩ := h.z.block_ (by rw [intVals_length]; omega)
    have m0 : ¬ w.heap.size = q := by omega
    have m1 : ¬ w.heap.size + 1 = q := by omega
    have m2 : q < w.heap.size := by omega
    have m3 : q < w.heap.size + 1 := by omega
    have hold := h.z.cellInt c hcl
    have hfr := h.z.frozen_ c
    go_enter Tryd.func77, Tryd.ntmps77
    go_wp2
    go_region
    all_goals
      go_wp2
      refine bodyPost_ret (v := .tuple #[heV (some ⟨g, 0, none⟩) vs.length ca (some ⟨q, 0, none⟩) zs.length cb, .int .i64 0]) (by simp [results, Tryd.results77, go_sem]) rfl ?_
      refine acted_to (h.setZ (k := c) (-1)) (turnB_at _ hq1 hq2 (.inr rfl)) rfl List.length_set ?_
      repeat (first | with_reducible exact Below.refl _ _ | refine Below.drew ?_ | refine Below.alloc ?_ (by simp <;> omega) _ | refine Below.setCell ?_ (by simp <;> omega) _)

end Go.Proofs.YtcgkaefacdblnaaDoor
