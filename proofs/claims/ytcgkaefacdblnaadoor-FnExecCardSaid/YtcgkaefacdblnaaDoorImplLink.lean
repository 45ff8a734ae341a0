/-
  The program's action that links a cell to another one.
-/
import Derived.Test.YtcgkaefacdblnaaDoorImplActs
import Derived.Test.YtcgkaefacdblnaaDoorLibRows
import Derived.Deep.RegionHeld3
namespace Go.Proofs.YtcgkaefacdblnaaDoor
open Go Go.RowKit Go.ChangeShapes Go.WideShapes Go.ChangeAt

theorem link_null {pa pb : Nat} {vs zs : List Int} (hp : pa < vs.length) (h : vs[pa] = -1) : linkS pa pb vs zs = badC 2 := by
  unfold linkS
  rw [getD_cell hp, if_pos h]
theorem link_ring {pa pb c : Nat} {vs zs : List Int} (hp : pa < vs.length) (hq : pb < vs.length) (h : vs[pa] = (c : Int)) (hm : (c : Int) ∈ followed zs vs[pb]) : linkS pa pb vs zs = badC 3 := by
  unfold linkS
  rw [getD_cell hp, getD_cell hq, h, if_neg (by omega), if_pos hm]
theorem link_ok {pa pb c : Nat} {vs zs : List Int} (hp : pa < vs.length) (hq : pb < vs.length) (h : vs[pa] = (c : Int)) (hm : ¬ (c : Int) ∈ followed zs vs[pb]) : linkS pa pb vs zs = (0, vs, zs.set c vs[pb]) := by
  unfold linkS
  rw [getD_cell hp, getD_cell hq, h, if_neg (by omega), if_neg hm, Int.toNat_natCast]

set_option maxRecDepth 100000 in
set_option maxHeartbeats 1600000 in
theorem implDoLink {lo hi pa pb : Nat} {a b : Option Addr} {ca cb : Nat} {vs zs : List Int} {w : World} (h : HeapIn lo hi w a ca b cb (intVals vs) (intVals zs)) (hp : pa < vs.length) (hq : pb < vs.length) (hgv : goodB zs vs = true) (hz6 : zs.length ≤ 6) :
    Calls Tryd.prog 78 #[heV a vs.length ca b zs.length cb, .int .i64 pa, .int .i64 pb] w (Acted lo hi (blocksH a b vs.length ca zs.length cb) (linkS pa pb vs zs) w) := by
  obtain ⟨g, rfl, hg1, hg2⟩ := h.v.block_ (by rw [intVals_length]; omega)
  have hhi := h.v.1
  have n0 : ¬ w.heap.size = g := by omega
  have n1 : ¬ w.heap.size + 1 = g := by omega
  have n2 : g < w.heap.size := by omega
  have n3 : g < w.heap.size + 1 := by omega
  have hsrc := h.v.cellInt pa hp
  by_cases hn : vs[pa] = -1
  · rw [link_null hp hn]
    rw [hn] at hsrc
    clear hn
    go_enter Tryd.func78, Tryd.ntmps78
    go_wp2
    refine bodyPost_ret (v := .tuple #[heV none 0 0 none 0 0, .int .i64 2]) (by simp [results, Tryd.results78, go_sem]) rfl ?_
    refine acted_bad (TurnB.of_below ?_)
    repeat (first | with_reducible exact Below.refl _ _ | refine Below.drew ?_ | refine Below.alloc ?_ (by simp <;> omega) _ | refine Below.setCell ?_ (by simp <;> omega) _)
  · obtain ⟨c, hc, hcl⟩ := var_cell hp hgv hn
    have hne : ((c : Int) == -1) = false := by simp only [beq_eq_false_iff_ne, ne_eq]; omega
    rw [hc] at hsrc
    have hsrcb := h.v.cellInt pb hq
    clear hn
    obtain ⟨q, rfl, hq1, hq2⟩ := h.z.block_ (by rw [intVals_length]; omega)
    have HP := Lib.hid hp
    have HQ := Lib.hid hq
    have HC := Lib.hid hc
    obtain ⟨xb, hxb⟩ : ∃ xb, vs[pb]'hq = xb := ⟨_, rfl⟩
    have HXB := Lib.hid hxb
    rw [hxb] at hsrcb
    clear hxb hc
    obtain ⟨W0, hW0, hb0, bn0, bp0⟩ := two_boxL w [.slice (some ⟨g, 0, none⟩) vs.length ca, .slice (some ⟨q, 0, none⟩) zs.length cb] [.slice none 0 0, .slice none 0 0] 29 29
    replace hW0 : ((w.alloc (.cells #[.slice (some ⟨g, 0, none⟩) vs.length ca, .slice (some ⟨q, 0, none⟩) zs.length cb] 29)).alloc (.cells #[.slice none 0 0, .slice none 0 0] 29)) = W0 := hW0
    have c0 := bn0.c 0 _ rfl
    have c1 := bn0.c 1 _ rfl
    have hA : ∀ W, Below W0.heap.size W0 W → BoxL W w.heap.size [.slice (some ⟨g, 0, none⟩) vs.length ca, .slice (some ⟨q, 0, none⟩) zs.length cb] ∧ BoxL W (w.heap.size + 1) [.slice none 0 0, .slice none 0 0] ∧ HeapIn lo hi W (some ⟨g, 0, none⟩) ca (some ⟨q, 0, none⟩) cb (intVals vs) (intVals zs) ∧ TurnB lo hi (blocksH (some ⟨g, 0, none⟩) (some ⟨q, 0, none⟩) vs.length ca zs.length cb) w W := fun W hb =>
      ⟨bn0.below hb, bp0.below hb, h.turn (lo' := hi) (hi' := hi) (Turn.of_below (hb0.trans (hb.mono hb0.size))) (.inl (Nat.le_refl _)), TurnB.of_below (hb0.trans (hb.mono hb0.size))⟩
    have hS : ∀ W, Below W0.heap.size W0 W → (W.cell? ⟨w.heap.size, 0, none⟩ = some (.slice (some ⟨g, 0, none⟩) vs.length ca) ∧ W.cell? ⟨w.heap.size, 1, none⟩ = some (.slice (some ⟨q, 0, none⟩) zs.length cb)) ∧ (W.cell? ⟨g, pa, none⟩ = some (.int .i64 (c : Int)) ∧ W.cell? ⟨g, pb, none⟩ = some (.int .i64 xb)) := fun W hb =>
      ⟨⟨(hA W hb).1.c 0 _ rfl, (hA W hb).1.c 1 _ rfl⟩, by have := (hA W hb).2.2.1.v.cellInt pa HP.out; rw [HC.out] at this; exact this, by have := (hA W hb).2.2.1.v.cellInt pb HQ.out; rw [HXB.out] at this; exact this⟩
    have s0 := (hS W0 (Below.refl _ _)).2.1
    have HA := Lib.hid hA
    have HS := Lib.hid hS
    have hD : Below W0.heap.size W0 W0.drew := Below.drew (Below.refl _ _)
    have hfl : (followed zs xb).length ≤ maxLen := by have := (followed_ok zs xb).len; unfold maxLen; omega
    clear hA hS h bn0 bp0 hb0
    obtain ⟨mb, hmb⟩ : ∃ mb, decide ((c : Int) ∈ followed zs xb) = mb := ⟨_, rfl⟩
    have HMB := Lib.hid hmb
    clear hmb
    go_enter Tryd.func78, Tryd.ntmps78
    go_wp2
    clear hW0
    go_region_held3 (fun W => (W.cell? ⟨w.heap.size, 0, none⟩ = some (.slice (some ⟨g, 0, none⟩) vs.length ca) ∧ W.cell? ⟨w.heap.size, 1, none⟩ = some (.slice (some ⟨q, 0, none⟩) zs.length cb)) ∧ (W.cell? ⟨g, pa, none⟩ = some (.int .i64 (c : Int)) ∧ W.cell? ⟨g, pb, none⟩ = some (.int .i64 xb)))
      (first | exact HS.out _ hD | exact HS.out _ (Below.drew hD) | exact HS.out _ H1)
      (first
        | (go_at_call 94; (with_reducible refine (implFollowed (some ⟨g, 0, none⟩) (some ⟨q, 0, none⟩) vs.length ca cb zs xb _ (by omega) (HA.out _ hD).2.2.1.rows.z).mono ?_); rintro e w1 ⟨fa, fc, rfl, _, hf1, hb1⟩; rw [intVals_length] at hf1 ⊢; have H1 := hD.trans (hb1.mono hD.size))
        | (go_at_call 95; (with_reducible refine (libContains fa fc (followed zs xb) (c : Int) _ hfl (Row.owned hf1)).mono ?_); rw [HMB.out]; rintro e w2 ⟨rfl, rfl⟩))
    obtain ⟨bn1, bp1, h1, T1⟩ := HA.out _ H1
    have hbl := h1.blocks
    have d0 := bn1.c 0 _ rfl
    have d1 := bn1.c 1 _ rfl
    have d2 := bp1.c 0 _ rfl
    have d3 := bp1.c 1 _ rfl
    have df := bp1.f
    have hs1 := bp1.lt
    have k0 := h1.v.cellInt pa hp
    rw [HC.out] at k0
    have k1 := h1.v.cellInt pb hq
    rw [HXB.out] at k1
    have k2 := h1.z.cellInt c hcl
    have k3 := h1.z.frozen_ c
    clear c0 c1 s0 HA HS hD H1 hb1 hf1 hsrc hsrcb hfl bn1 bp1
    cases mb
    case' true =>
      have HR := Lib.hid (link_ring hp hq HC.out (by rw [HXB.out]; exact of_decide_eq_true HMB.out))
      go_wp2
      refine bodyPost_ret (v := .tuple #[heV none 0 0 none 0 0, .int .i64 3]) (by simp [results, Tryd.results78, go_sem, d2, d3]) rfl ?_
      rw [HR.out]
      refine acted_bad ?_
      repeat (first | with_reducible exact T1 | refine TurnB.setNew ?_ (by omega))
    case' false =>
      have hlo := link_ok hp hq HC.out (by rw [HXB.out]; exact of_decide_eq_false HMB.out)
      rw [HXB.out] at hlo
      have HR := Lib.hid hlo
      clear hlo
      go_wp2
      go_region
      all_goals
        go_wp2
        refine bodyPost_ret (v := .tuple #[heV (some ⟨g, 0, none⟩) vs.length ca (some ⟨q, 0, none⟩) zs.length cb, .int .i64 0]) (by simp [results, Tryd.results78, go_sem, d2, d3]) rfl ?_
        rw [HR.out]
        have hX := heap_box (Q := w.heap.size + 1) (u := .slice (some ⟨g, 0, none⟩) vs.length ca) (v := .slice (some ⟨q, 0, none⟩) zs.length cb) (h1.setZ (k := c) xb) (T1.trans (turnB_at (.int .i64 xb) hq1 hq2 (.inr rfl))) hhi (by omega)
        exact acted_of rfl List.length_set hX.1.draws hX.2.draws
end Go.Proofs.YtcgkaefacdblnaaDoor
