/-
  The model's actions on a heap that may be written: l8Do, one a kind of statement, where no test fails, no null is followed, no cell is wanted too much.
  The model's actions that make, link and free a cell.
-/
import Derived.Handy
import Derived.Test.YtpmmjaceehlpiaaGreatDoorF04
import Derived.Test.YtpmmjaceehlpiaaGreatDoorF07
namespace Go.Proofs.YtpmmjaceehlpiaaGreatDoor
open Go Go.RowKit Go.ChangeShapes Go.WideShapes Go.ChangeAt

set_option maxHeartbeats 800000 in
theorem specDo_skip {lo hi pa pb : Nat} {a b : Option Addr} {ca cb : Nat} {vs zs : List Int} (sa sb : ByteArray) {w : World} (h : HeapIn lo hi w a ca b cb (intVals vs) (intVals zs)) (_hp : pa < vs.length) (_hq : pb < vs.length) {k : Int} (hk : k = 1 ∨ (9 ≤ k ∧ k ≤ 12)) :
    Calls Tryz.prog 108 #[stV k sa sb, heV a vs.length ca b zs.length cb, .int .i64 pa, .int .i64 pb] w (Acted lo hi (blocksH a b vs.length ca zs.length cb) (0, vs, zs) w) := by
  have k2 : (k == 2) = false := by simp only [beq_eq_false_iff_ne, ne_eq]; omega
  have k3 : (k == 3) = false := by simp only [beq_eq_false_iff_ne, ne_eq]; omega
  have k4 : (k == 4) = false := by simp only [beq_eq_false_iff_ne, ne_eq]; omega
  have k5 : (k == 5) = false := by simp only [beq_eq_false_iff_ne, ne_eq]; omega
  have k6 : (k == 6) = false := by simp only [beq_eq_false_iff_ne, ne_eq]; omega
  have k7 : (k == 7) = false := by simp only [beq_eq_false_iff_ne, ne_eq]; omega
  have k8 : (k == 8) = false := by simp only [beq_eq_false_iff_ne, ne_eq]; omega
  clear hk _hp _hq
  go_enter Tryz.func108, Tryz.ntmps108
  go_wp2
  refine bodyPost_ret (v := .tuple #[heV a vs.length ca b zs.length cb, .int .i64 0]) (by simp [results, Tryz.results108, go_sem]) rfl ?_
  refine acted_to h (TurnB.of_below (Below.refl _ _)) rfl rfl ?_
  repeat (first | with_reducible exact Below.refl _ _ | refine Below.drew ?_ | refine Below.alloc ?_ (by go_size) _ | refine Below.setCell ?_ (by go_size) _)

set_option maxHeartbeats 800000 in
theorem specDo_2 {lo hi pa pb : Nat} {a b : Option Addr} {ca cb : Nat} {vs zs : List Int} (sa sb : ByteArray) {w : World} (h : HeapIn lo hi w a ca b cb (intVals vs) (intVals zs)) (hp : pa < vs.length) (hq : pb < vs.length) :
    Calls Tryz.prog 108 #[stV 2 sa sb, heV a vs.length ca b zs.length cb, .int .i64 pa, .int .i64 pb] w (Acted lo hi (blocksH a b vs.length ca zs.length cb) (0, vs.set pa (-1), zs) w) := by
  obtain ⟨g, rfl, hg1, hg2⟩ := h.v.block_ (by rw [intVals_length]; omega)
  have hhi := h.v.1
  have n0 : ¬ w.heap.size = g := by omega
  have n1 : ¬ w.heap.size + 1 = g := by omega
  have n2 : g < w.heap.size := by omega
  have n3 : g < w.heap.size + 1 := by omega
  have n4 : g < w.heap.size + 1 + 1 := by omega
  have n5 : ¬ w.heap.size + 1 + 1 = g := by omega
  have hold := h.v.cellInt pa hp
  have hfr := h.v.frozen_ pa
  go_enter Tryz.func108, Tryz.ntmps108
  go_wp2
  refine bodyPost_ret (v := .tuple #[heV (some ⟨g, 0, none⟩) vs.length ca b zs.length cb, .int .i64 0]) (by simp [results, Tryz.results108, go_sem]) rfl ?_
  refine acted_to (h.setV (k := pa) (-1)) (turnB_at _ hg1 hg2 (.inl rfl)) List.length_set rfl ?_
  repeat (first | with_reducible exact Below.refl _ _ | refine Below.drew ?_ | refine Below.alloc ?_ (by go_size) _ | refine Below.setCell ?_ (by go_size) _)

set_option maxHeartbeats 800000 in
theorem specDo_4 {lo hi pa pb : Nat} {a b : Option Addr} {ca cb : Nat} {vs zs : List Int} (sa sb : ByteArray) {w : World} (h : HeapIn lo hi w a ca b cb (intVals vs) (intVals zs)) (hp : pa < vs.length) (hq : pb < vs.length) :
    Calls Tryz.prog 108 #[stV 4 sa sb, heV a vs.length ca b zs.length cb, .int .i64 pa, .int .i64 pb] w (Acted lo hi (blocksH a b vs.length ca zs.length cb) (0, vs.set pa (vs.getD pb (-1)), zs) w) := by
  rw [getD_cell hq]
  obtain ⟨g, rfl, hg1, hg2⟩ := h.v.block_ (by rw [intVals_length]; omega)
  have hhi := h.v.1
  have n0 : ¬ w.heap.size = g := by omega
  have n1 : ¬ w.heap.size + 1 = g := by omega
  have n2 : g < w.heap.size := by omega
  have n3 : g < w.heap.size + 1 := by omega
  have n4 : g < w.heap.size + 1 + 1 := by omega
  have n5 : ¬ w.heap.size + 1 + 1 = g := by omega
  have hold := h.v.cellInt pa hp
  have hsrc := h.v.cellInt pb hq
  have hfr := h.v.frozen_ pa
  go_enter Tryz.func108, Tryz.ntmps108
  go_wp2
  go_region
  all_goals
    go_wp2
    refine bodyPost_ret (v := .tuple #[heV (some ⟨g, 0, none⟩) vs.length ca b zs.length cb, .int .i64 0]) (by simp [results, Tryz.results108, go_sem]) rfl ?_
    refine acted_to (h.setV (k := pa) vs[pb]) (turnB_at _ hg1 hg2 (.inl rfl)) List.length_set rfl ?_
    repeat (first | with_reducible exact Below.refl _ _ | refine Below.drew ?_ | refine Below.alloc ?_ (by go_size) _ | refine Below.setCell ?_ (by go_size) _)

set_option maxHeartbeats 800000 in
theorem specDo_5 {lo hi pa pb : Nat} {a b : Option Addr} {ca cb : Nat} {vs zs : List Int} (sa sb : ByteArray) {w : World} (h : HeapIn lo hi w a ca b cb (intVals vs) (intVals zs)) (hp : pa < vs.length) (hq : pb < vs.length) (hgv : goodB zs vs = true) (hn : vs.getD pb (-1) ≠ -1) :
    Calls Tryz.prog 108 #[stV 5 sa sb, heV a vs.length ca b zs.length cb, .int .i64 pa, .int .i64 pb] w (Acted lo hi (blocksH a b vs.length ca zs.length cb) (0, vs.set pa (nextC zs (vs.getD pb (-1))), zs) w) := by
  rw [getD_cell hq] at hn ⊢
  obtain ⟨g, rfl, hg1, hg2⟩ := h.v.block_ (by rw [intVals_length]; omega)
  have hhi := h.v.1
  have n0 : ¬ w.heap.size = g := by omega
  have n1 : ¬ w.heap.size + 1 = g := by omega
  have n2 : g < w.heap.size := by omega
  have n3 : g < w.heap.size + 1 := by omega
  have n4 : g < w.heap.size + 1 + 1 := by omega
  have n5 : ¬ w.heap.size + 1 + 1 = g := by omega
  have hold := h.v.cellInt pa hp
  have hsrc := h.v.cellInt pb hq
  have hfr := h.v.frozen_ pa
  obtain ⟨c, hc, hcl⟩ := var_cell hq hgv hn
  rw [hc] at hsrc ⊢
  rw [nextC_at hcl]
  clear hn
  obtain ⟨q, rfl, hq1, hq2⟩ := h.z.block_ (by rw [intVals_length]; omega)
  have m0 : ¬ w.heap.size = q := by omega
  have m1 : ¬ w.heap.size + 1 = q := by omega
  have m2 : q < w.heap.size := by omega
  have m3 : q < w.heap.size + 1 := by omega
  have m4 : q < w.heap.size + 1 + 1 := by omega
  have m5 : ¬ w.heap.size + 1 + 1 = q := by omega
  have hnx := h.z.cellInt c hcl
  go_enter Tryz.func108, Tryz.ntmps108
  go_wp2
  go_region
  all_goals
    go_wp2
    refine bodyPost_ret (v := .tuple #[heV (some ⟨g, 0, none⟩) vs.length ca (some ⟨q, 0, none⟩) zs.length cb, .int .i64 0]) (by simp [results, Tryz.results108, go_sem]) rfl ?_
    refine acted_to (h.setV (k := pa) zs[c]) (turnB_at _ hg1 hg2 (.inl rfl)) List.length_set rfl ?_
    repeat (first | with_reducible exact Below.refl _ _ | refine Below.drew ?_ | refine Below.alloc ?_ (by go_size) _ | refine Below.setCell ?_ (by go_size) _)

set_option maxHeartbeats 800000 in
theorem specDo_6 {lo hi pa pb : Nat} {a b : Option Addr} {ca cb : Nat} {vs zs : List Int} (sa sb : ByteArray) {w : World} (h : HeapIn lo hi w a ca b cb (intVals vs) (intVals zs)) (hp : pa < vs.length) (hq : pb < vs.length) (hgv : goodB zs vs = true) (hn : vs.getD pa (-1) ≠ -1) :
    Calls Tryz.prog 108 #[stV 6 sa sb, heV a vs.length ca b zs.length cb, .int .i64 pa, .int .i64 pb] w (Acted lo hi (blocksH a b vs.length ca zs.length cb) (0, vs, zs.set (vs.getD pa (-1)).toNat (-1)) w) := by
  rw [getD_cell hp] at hn ⊢
  obtain ⟨g, rfl, hg1, hg2⟩ := h.v.block_ (by rw [intVals_length]; omega)
  have hhi := h.v.1
  have n0 : ¬ w.heap.size = g := by omega
  have n1 : ¬ w.heap.size + 1 = g := by omega
  have n2 : g < w.heap.size := by omega
  have n3 : g < w.heap.size + 1 := by omega
  have n4 : g < w.heap.size + 1 + 1 := by omega
  have n5 : ¬ w.heap.size + 1 + 1 = g := by omega
  have hsrc := h.v.cellInt pa hp
  obtain ⟨c, hc, hcl⟩ := var_cell hp hgv hn
  rw [hc] at hsrc ⊢
  rw [Int.toNat_natCast]
  clear hn
  obtain ⟨q, rfl, hq1, hq2⟩ := h.z.block_ (by rw [intVals_length]; omega)
  have m0 : ¬ w.heap.size = q := by omega
  have m1 : ¬ w.heap.size + 1 = q := by omega
  have m2 : q < w.heap.size := by omega
  have m3 : q < w.heap.size + 1 := by omega
  have m4 : q < w.heap.size + 1 + 1 := by omega
  have m5 : ¬ w.heap.size + 1 + 1 = q := by omega
  have hold := h.z.cellInt c hcl
  have hfr := h.z.frozen_ c
  go_enter Tryz.func108, Tryz.ntmps108
  go_wp2
  go_region
  all_goals
    go_wp2
    refine bodyPost_ret (v := .tuple #[heV (some ⟨g, 0, none⟩) vs.length ca (some ⟨q, 0, none⟩) zs.length cb, .int .i64 0]) (by simp [results, Tryz.results108, go_sem]) rfl ?_
    refine acted_to (h.setZ (k := c) (-1)) (turnB_at _ hq1 hq2 (.inr rfl)) rfl List.length_set ?_
    repeat (first | with_reducible exact Below.refl _ _ | refine Below.drew ?_ | refine Below.alloc ?_ (by go_size) _ | refine Below.setCell ?_ (by go_size) _)

end Go.Proofs.YtpmmjaceehlpiaaGreatDoor

namespace Go.Proofs.YtpmmjaceehlpiaaGreatDoor
open Go Go.RowKit Go.ChangeShapes Go.WideShapes Go.ChangeAt

set_option maxRecDepth 100000 in
set_option maxHeartbeats 800000 in
theorem specDo_3 {lo hi pa pb : Nat} {a b : Option Addr} {ca cb : Nat} {vs zs : List Int} (sa sb : ByteArray) {w : World} (h : HeapIn lo hi w a ca b cb (intVals vs) (intVals zs)) (hp : pa < vs.length) (hq : pb < vs.length) (hz6 : zs.length ≤ 6) :
    Calls Tryz.prog 108 #[stV 3 sa sb, heV a vs.length ca b zs.length cb, .int .i64 pa, .int .i64 pb] w (Acted lo hi (blocksH a b vs.length ca zs.length cb) (0, vs.set pa (zs.length : Int), zs ++ [-1]) w) := by
  obtain ⟨i0, hi0, hz0, hz1, hz2⟩ := info_parts intInfoH
  obtain ⟨g, rfl, hg1, hg2⟩ := h.v.block_ (by rw [intVals_length]; omega)
  have hhi := h.v.1
  have n0 : ¬ w.heap.size = g := by omega
  have n1 : ¬ w.heap.size + 1 = g := by omega
  have n2 : g < w.heap.size := by omega
  have n3 : g < w.heap.size + 1 := by omega
  have n4 : g < w.heap.size + 1 + 1 := by omega
  have n5 : ¬ w.heap.size + 1 + 1 = g := by omega
  have hold := h.v.cellInt pa hp
  have hfr := h.v.frozen_ pa
  have h1 := h.setV (k := pa) (zs.length : Int)
  have t1 : TurnB lo hi (blocksH (some ⟨g, 0, none⟩) b vs.length ca zs.length cb) w (w.setCell ⟨g, pa, none⟩ (.int .i64 (zs.length : Int))) := turnB_at _ hg1 hg2 (.inl rfl)
  obtain ⟨W0, hW0, hb0, bs0, bn0, bp0⟩ := three_boxL (w.setCell ⟨g, pa, none⟩ (.int .i64 (zs.length : Int))) [.int .i64 3, .string sa, .string sb] [.slice (some ⟨g, 0, none⟩) vs.length ca, .slice b zs.length cb] [.slice none 0 0, .slice none 0 0] 83 30 30
  replace hW0 : ((((w.setCell ⟨g, pa, none⟩ (.int .i64 (zs.length : Int))).alloc (.cells #[.int .i64 3, .string sa, .string sb] 83)).alloc (.cells #[.slice (some ⟨g, 0, none⟩) vs.length ca, .slice b zs.length cb] 30)).alloc (.cells #[.slice none 0 0, .slice none 0 0] 30)) = W0 := hW0
  have hs0 : (w.setCell ⟨g, pa, none⟩ (.int .i64 (zs.length : Int))).heap.size = w.heap.size := by simp
  rw [hs0] at bs0 bn0 bp0
  have h0 := h1.below hb0
  have T0 := t1.trans (TurnB.of_below hb0)
  have hlow : lo ≤ W0.heap.size := by have := bp0.lt; omega
  have hal := (Below.refl W0.heap.size W0).alloc (Nat.le_refl _) (.cells #[.int .i64 (-1)] 3)
  have h0a := h0.below hal
  have bn0a := bn0.below hal
  have bp0a := bp0.below hal
  have T0a := T0.trans (TurnB.of_below hal)
  have hbig : w.heap.size + 2 < W0.heap.size := bp0.lt
  have hown0a := h0a.z.2.1
  rw [intVals_length] at hown0a
  have k0 := bn0.c 0 _ rfl
  have k1 := bn0.c 1 _ rfl
  clear h1 t1 h bn0 bp0 bs0 hb0 T0 h0
  go_enter Tryz.func108, Tryz.ntmps108
  go_wp2_with (first
    | (at_builtin; (try rw [hW0]); refine wpList_append_own_at _ rfl (.tmp 30) (.tmp 31) 28 rfl lo 3 i0 (.int .i64 0) 1 8 Tryz.underlying28 hi0 hz0 hz1 hz2 rfl (by decide) _ zs.length _ rfl hown0a ⟨W0.heap.size, 0, none⟩ 1 1 [.int .i64 (-1)] rfl rfl (oneCell_at _) (oneCell_int _) (by unfold maxLen; omega) (by omega) (by simp; omega) ?_; intro v5 w5 hown5 hg5 _ hloc; obtain ⟨va5, vc5, rfl, _⟩ := own_shape hown5; obtain ⟨h5, t5, hbl⟩ := h0a.pushZ (S := blocksH (some ⟨g, 0, none⟩) b vs.length ca zs.length cb) (B := W0.heap.size) (x := -1) (by rw [intVals_snoc]; exact hown5) hg5 (hloc.imp id fun e => Exists.intro _ (And.intro e (by simp))) (by omega) (fun k hk => blocksH_any hk); have bn5 := bn0a.turn t5.t (.inr (by omega)); have bp5 := bp0a.turn t5.t (.inr (by omega)); have d0 := bn5.c 0 _ rfl; have d1 := bn5.c 1 _ rfl; have df := bn5.f; have e0 := bp5.c 0 _ rfl; have e1 := bp5.c 1 _ rfl; have ef := bp5.f; have hs5 := bp5.lt; clear bn5 bp5 bn0a bp0a hown5 hg5 hloc h0a hown0a)
    | fail)
  refine bodyPost_ret (v := .tuple #[heV (some ⟨g, 0, none⟩) vs.length ca va5 (zs.length + 1) vc5, .int .i64 0]) (by simp [results, Tryz.results108, go_sem, e0, e1]) rfl ?_
  refine acted_of List.length_set (by simp) ?_ ?_ (fun k hk => (hbl k hk).imp (fun hh => hh.1) (fun hh => by omega))
  · have hs : (((w5.setCell ⟨w.heap.size + 1, 1, none⟩ (.slice va5 (zs.length + 1) vc5)).setCell ⟨w.heap.size + 2, 0, none⟩ (.slice (some ⟨g, 0, none⟩) vs.length ca)).setCell ⟨w.heap.size + 2, 1, none⟩ (.slice va5 (zs.length + 1) vc5)).heap.size = w5.heap.size := by simp
    have hX := ((h5.setNot (Q := w.heap.size + 1) (i := 1) (u := .slice va5 (zs.length + 1) vc5) fun k hk => by have := hbl k hk; omega).setNot (Q := w.heap.size + 2) (i := 0) (u := .slice (some ⟨g, 0, none⟩) vs.length ca) fun k hk => by have := hbl k hk; omega).setNot (Q := w.heap.size + 2) (i := 1) (u := .slice va5 (zs.length + 1) vc5) fun k hk => by have := hbl k hk; omega
    rw [← hs] at hX
    exact hX
  · repeat (first | with_reducible exact T0a.trans t5 | refine TurnB.setNew ?_ (by omega))

set_option maxRecDepth 100000 in
set_option maxHeartbeats 800000 in
theorem specDo_7 {lo hi pa pb : Nat} {a b : Option Addr} {ca cb : Nat} {vs zs : List Int} (sa sb : ByteArray) {w : World} (h : HeapIn lo hi w a ca b cb (intVals vs) (intVals zs)) (hp : pa < vs.length) (hq : pb < vs.length) (hgv : goodB zs vs = true) (hz6 : zs.length ≤ 6) (hn : vs.getD pa (-1) ≠ -1) :
    Calls Tryz.prog 108 #[stV 7 sa sb, heV a vs.length ca b zs.length cb, .int .i64 pa, .int .i64 pb] w (Acted lo hi (blocksH a b vs.length ca zs.length cb) (linkS pa pb vs zs) w) := by
  rw [getD_cell hp] at hn
  obtain ⟨g, rfl, hg1, hg2⟩ := h.v.block_ (by rw [intVals_length]; omega)
  have hhi := h.v.1
  have n0 : ¬ w.heap.size = g := by omega
  have n1 : ¬ w.heap.size + 1 = g := by omega
  have n2 : g < w.heap.size := by omega
  have n3 : g < w.heap.size + 1 := by omega
  have n4 : g < w.heap.size + 1 + 1 := by omega
  have n5 : ¬ w.heap.size + 1 + 1 = g := by omega
  have hsrc := h.v.cellInt pa hp
  obtain ⟨c, hc, hcl⟩ := var_cell hp hgv hn
  rw [hc] at hsrc
  have hsrcb := h.v.cellInt pb hq
  clear hn
  obtain ⟨q, rfl, hq1, hq2⟩ := h.z.block_ (by rw [intVals_length]; omega)
  have m0 : ¬ w.heap.size = q := by omega
  have m1 : ¬ w.heap.size + 1 = q := by omega
  have m2 : q < w.heap.size := by omega
  have m3 : q < w.heap.size + 1 := by omega
  have m4 : q < w.heap.size + 1 + 1 := by omega
  have m5 : ¬ w.heap.size + 1 + 1 = q := by omega
  have HP := Lib.hid hp
  have HQ := Lib.hid hq
  have HC := Lib.hid hc
  obtain ⟨xb, hxb⟩ : ∃ xb, vs[pb]'hq = xb := ⟨_, rfl⟩
  have HXB := Lib.hid hxb
  rw [hxb] at hsrcb
  clear hxb hc
  obtain ⟨W0, hW0, hb0, bs0, bn0, bp0⟩ := three_boxL w [.int .i64 7, .string sa, .string sb] [.slice (some ⟨g, 0, none⟩) vs.length ca, .slice (some ⟨q, 0, none⟩) zs.length cb] [.slice none 0 0, .slice none 0 0] 83 30 30
  replace hW0 : (((w.alloc (.cells #[.int .i64 7, .string sa, .string sb] 83)).alloc (.cells #[.slice (some ⟨g, 0, none⟩) vs.length ca, .slice (some ⟨q, 0, none⟩) zs.length cb] 30)).alloc (.cells #[.slice none 0 0, .slice none 0 0] 30)) = W0 := hW0
  have k0 := bs0.c 0 _ rfl
  have hA : ∀ W, Below W0.heap.size W0 W → (BoxL W w.heap.size [.int .i64 7, .string sa, .string sb] ∧ BoxL W (w.heap.size + 1) [.slice (some ⟨g, 0, none⟩) vs.length ca, .slice (some ⟨q, 0, none⟩) zs.length cb] ∧ BoxL W (w.heap.size + 2) [.slice none 0 0, .slice none 0 0]) ∧ HeapIn lo hi W (some ⟨g, 0, none⟩) ca (some ⟨q, 0, none⟩) cb (intVals vs) (intVals zs) ∧ TurnB lo hi (blocksH (some ⟨g, 0, none⟩) (some ⟨q, 0, none⟩) vs.length ca zs.length cb) w W := fun W hb =>
    ⟨⟨bs0.below hb, bn0.below hb, bp0.below hb⟩, h.turn (lo' := hi) (hi' := hi) (Turn.of_below (hb0.trans (hb.mono hb0.size))) (.inl (Nat.le_refl _)), TurnB.of_below (hb0.trans (hb.mono hb0.size))⟩
  have hS : ∀ W, Below W0.heap.size W0 W → (W.cell? ⟨w.heap.size + 1, 0, none⟩ = some (.slice (some ⟨g, 0, none⟩) vs.length ca) ∧ W.cell? ⟨w.heap.size + 1, 1, none⟩ = some (.slice (some ⟨q, 0, none⟩) zs.length cb)) ∧ (W.cell? ⟨g, pa, none⟩ = some (.int .i64 (c : Int)) ∧ W.cell? ⟨g, pb, none⟩ = some (.int .i64 xb)) := fun W hb =>
    ⟨⟨(hA W hb).1.2.1.c 0 _ rfl, (hA W hb).1.2.1.c 1 _ rfl⟩, by have := (hA W hb).2.1.v.cellInt pa HP.out; rw [HC.out] at this; exact this, by have := (hA W hb).2.1.v.cellInt pb HQ.out; rw [HXB.out] at this; exact this⟩
  have HA := Lib.hid hA
  have HS := Lib.hid hS
  have hD : Below W0.heap.size W0 W0.drew := Below.drew (Below.refl _ _)
  have hfl : (followed zs xb).length ≤ 1048576 := by have := (followed_ok zs xb).len; omega
  obtain ⟨mb, hmb⟩ : ∃ mb, decide ((c : Int) ∈ followed zs xb) = mb := ⟨_, rfl⟩
  have HMB := Lib.hid hmb
  clear hmb hA hS h bs0 bn0 bp0 hb0
  go_enter Tryz.func108, Tryz.ntmps108
  go_wp2
  clear hW0
  go_region_held3 (fun W => (W.cell? ⟨w.heap.size + 1, 0, none⟩ = some (.slice (some ⟨g, 0, none⟩) vs.length ca) ∧ W.cell? ⟨w.heap.size + 1, 1, none⟩ = some (.slice (some ⟨q, 0, none⟩) zs.length cb)) ∧ (W.cell? ⟨g, pa, none⟩ = some (.int .i64 (c : Int)) ∧ W.cell? ⟨g, pb, none⟩ = some (.int .i64 xb)))
    (first | exact HS.out _ hD | exact HS.out _ (Below.drew hD) | exact HS.out _ H1 | exact HS.out _ H2)
    (first
      | (go_at_call 114; (with_reducible refine (specFollowed (some ⟨g, 0, none⟩) (some ⟨q, 0, none⟩) vs.length ca cb zs xb _ (by omega) (HA.out _ hD).2.1.rows.z).mono ?_); rintro e w1 ⟨fa, fc, rfl, _, hf1, hb1⟩; rw [intVals_length] at hf1 ⊢; have H1 := hD.trans (hb1.mono hD.size))
      | (go_at_call 115; (with_reducible refine (specHas fa fc (followed zs xb) (c : Int) _ hfl (Row.owned hf1)).mono ?_); rw [HMB.out]; rintro e w2 ⟨rfl, hb2⟩; have H2 := H1.trans (hb2.mono H1.size)))
  obtain ⟨⟨bs1, bn1, bp1⟩, h1, T1⟩ := HA.out _ H2
  have d0 := bn1.c 0 _ rfl
  have d1 := bn1.c 1 _ rfl
  have d2 := bp1.c 0 _ rfl
  have d3 := bp1.c 1 _ rfl
  have df := bp1.f
  have hs1 := bp1.lt
  have k0 := h1.v.cellInt pa hp
  rw [HC.out] at k0
  have k1 := h1.v.cellInt pb hq
  rw [HXB.out] at k1
  have k2 := h1.z.cellInt c hcl
  have k3 := h1.z.frozen_ c
  clear HA HS hD H1 H2 hb1 hb2 hf1 hsrc hsrcb hfl bs1 bn1 bp1
  cases mb
  case' true =>
    have HR := Lib.hid (link_ring hp hq HC.out (by rw [HXB.out]; exact of_decide_eq_true HMB.out))
    go_wp2
    refine bodyPost_ret (v := .tuple #[heV none 0 0 none 0 0, .int .i64 3]) (by simp [results, Tryz.results108, go_sem, d2, d3]) rfl ?_
    rw [HR.out]
    refine acted_bad ?_
    repeat (first | with_reducible exact T1 | refine TurnB.setNew ?_ (by omega))
  case' false =>
    have hlo := link_ok hp hq HC.out (by rw [HXB.out]; exact of_decide_eq_false HMB.out)
    rw [HXB.out] at hlo
    have HR := Lib.hid hlo
    clear hlo
    go_wp2
    go_region
    all_goals
      go_wp2
      refine bodyPost_ret (v := .tuple #[heV (some ⟨g, 0, none⟩) vs.length ca (some ⟨q, 0, none⟩) zs.length cb, .int .i64 0]) (by simp [results, Tryz.results108, go_sem, d2, d3]) rfl ?_
      rw [HR.out]
      have hX := heap_box (Q := w.heap.size + 2) (u := .slice (some ⟨g, 0, none⟩) vs.length ca) (v := .slice (some ⟨q, 0, none⟩) zs.length cb) (h1.setZ (k := c) xb) (T1.trans (turnB_at (.int .i64 xb) hq1 hq2 (.inr rfl))) hhi (by omega)
      exact acted_of rfl List.length_set hX.1.draws hX.2.draws

end Go.Proofs.YtpmmjaceehlpiaaGreatDoor
