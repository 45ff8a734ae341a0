/-
  Several texts of one proof in one file, in the order in which they build.
-/
import Derived.Handy
import Derived.OrdersHeld
import Derived.Tactics
import Derived.Deep.AppendLies
import Derived.Lib.QuietBelow
import Derived.Test.YtpmmjaceehlpiaaGreatDoorR11
import Derived.Test.YtpmmjaceehlpiaaGreatDoorR13
/-
  The model's actions on a heap that may be written: l8Do, one a kind of statement, where no test fails, no null is followed, no cell is wanted too much.
  The model's actions that make, link and free a cell.
-/
namespace Go.Proofs.YtpmmjaceehlpiaaGreatDoor
open Go Go.RowKit Go.ChangeShapes Go.WideShapes Go.ChangeAt

set_option maxHeartbeats 800000 in
theorem specDo_skip {lo hi pa pb : Nat} {a b : Option Addr} {ca cb : Nat} {vs zs : List Int} (sa sb : ByteArray) {w : World} (h : HeapIn lo hi w a ca b cb (intVals vs) (intVals zs)) (_hp : pa < vs.length) (_hq : pb < vs.length) {k : Int} (hk : k = 1 ∨ (9 ≤ k ∧ k ≤ 12)) :
    Calls Tryz.prog 108 #[stV k sa sb, heV a vs.length ca b zs.length cb, .int .i64 pa, .int .i64 pb] w (Acted lo hi (blocksH a b vs.length ca zs.length cb) (0, vs, zs) w) := by
  have k2 : (k == 2) = false := by simp only [beq_eq_false_iff_ne, ne_eq]; omega
  have k3 : (k == 3) = false := by simp only [beq_eq_false_iff_ne, ne_eq]; omega
  have k4 : (k == 4) = false := by simp only [beq_eq_false_iff_ne, ne_eq]; omega
  have k5 : (k == 5) = false := by simp only [beq_eq_false_iff_ne, ne_eq]; omega
  have k6 : (k == 6) = false := by simp only [beq_eq_false_iff_ne, ne_eq]; omega
  have k7 : (k == 7) = false := by simp only [beq_eq_false_iff_ne, ne_eq]; omega
  have k8 : (k == 8) = false := by simp only [beq_eq_false_iff_ne, ne_eq]; omega
  clear hk _hp _hq
  go_enter Tryz.func108, Tryz.ntmps108
  go_wp2
  refine bodyPost_ret (v := .tuple #[heV a vs.length ca b zs.length cb, .int .i64 0]) (by simp [results, Tryz.results108, go_sem]) rfl ?_
  refine acted_to h (TurnB.of_below (Below.refl _ _)) rfl rfl ?_
  repeat (first | with_reducible exact Below.refl _ _ | refine Below.drew ?_ | refine Below.alloc ?_ (by go_size) _ | refine Below.setCell ?_ (by go_size) _)

set_option maxHeartbeats 800000 in
theorem specDo_2 {lo hi pa pb : Nat} {a b : Option Addr} {ca cb : Nat} {vs zs : List Int} (sa sb : ByteArray) {w : World} (h : HeapIn lo hi w a ca b cb (intVals vs) (intVals zs)) (hp : pa < vs.length) (hq : pb < vs.length) :
    Calls Tryz.prog 108 #[stV 2 sa sb, heV a vs.length ca b zs.length cb, .int .i64 pa, .int .i64 pb] w (Acted lo hi (blocksH a b vs.length ca zs.length cb) (0, vs.set pa (-1), zs) w) := by
  obtain ⟨g, rfl, hg1, hg2⟩ := h.v.block_ (by rw [intVals_length]; omega)
  have hhi := h.v.1
  have n0 : ¬ w.heap.size = g := by omega
  have n1 : ¬ w.heap.size + 1 = g := by omega
  have n2 : g < w.heap.size := by omega
  have n3 : g < w.heap.size + 1 := by omega
  have n4 : g < w.heap.size + 1 + 1 := by omega
  have n5 : ¬ w.heap.size + 1 + 1 = g := by omega
  have hold := h.v.cellInt pa hp
  have hfr := h.v.frozen_ pa
  go_enter Tryz.func108, Tryz.ntmps108
  go_wp2
  refine bodyPost_ret (v := .tuple #[heV (some ⟨g, 0, none⟩) vs.length ca b zs.length cb, .int .i64 0]) (by simp [results, Tryz.results108, go_sem]) rfl ?_
  refine acted_to (h.setV (k := pa) (-1)) (turnB_at _ hg1 hg2 (.inl rfl)) List.length_set rfl ?_
  repeat (first | with_reducible exact Below.refl _ _ | refine Below.drew ?_ | refine Below.alloc ?_ (by go_size) _ | refine Below.setCell ?_ (by go_size) _)

set_option maxHeartbeats 800000 in
theorem specDo_4 {lo hi pa pb : Nat} {a b : Option Addr} {ca cb : Nat} {vs zs : List Int} (sa sb : ByteArray) {w : World} (h : HeapIn lo hi w a ca b cb (intVals vs) (intVals zs)) (hp : pa < vs.length) (hq : pb < vs.length) :
    Calls Tryz.prog 108 #[stV 4 sa sb, heV a vs.length ca b zs.length cb, .int .i64 pa, .int .i64 pb] w (Acted lo hi (blocksH a b vs.length ca zs.length cb) (0, vs.set pa (vs.getD pb (-1)), zs) w) := by
  rw [getD_cell hq]
  obtain ⟨g, rfl, hg1, hg2⟩ := h.v.block_ (by rw [intVals_length]; omega)
  have hhi := h.v.1
  have n0 : ¬ w.heap.size = g := by omega
  have n1 : ¬ w.heap.size + 1 = g := by omega
  have n2 : g < w.heap.size := by omega
  have n3 : g < w.heap.size + 1 := by omega
  have n4 : g < w.heap.size + 1 + 1 := by omega
  have n5 : ¬ w.heap.size + 1 + 1 = g := by omega
  have hold := h.v.cellInt pa hp
  have hsrc := h.v.cellInt pb hq
  have hfr := h.v.frozen_ pa
  go_enter Tryz.func108, Tryz.ntmps108
  go_wp2
  go_region
  all_goals
    go_wp2
    refine bodyPost_ret (v := .tuple #[heV (some ⟨g, 0, none⟩) vs.length ca b zs.length cb, .int .i64 0]) (by simp [results, Tryz.results108, go_sem]) rfl ?_
    refine acted_to (h.setV (k := pa) vs[pb]) (turnB_at _ hg1 hg2 (.inl rfl)) List.length_set rfl ?_
    repeat (first | with_reducible exact Below.refl _ _ | refine Below.drew ?_ | refine Below.alloc ?_ (by go_size) _ | refine Below.setCell ?_ (by go_size) _)

set_option maxHeartbeats 800000 in
theorem specDo_5 {lo hi pa pb : Nat} {a b : Option Addr} {ca cb : Nat} {vs zs : List Int} (sa sb : ByteArray) {w : World} (h : HeapIn lo hi w a ca b cb (intVals vs) (intVals zs)) (hp : pa < vs.length) (hq : pb < vs.length) (hgv : goodB zs vs = true) (hn : vs.getD pb (-1) ≠ -1) :
    Calls Tryz.prog 108 #[stV 5 sa sb, heV a vs.length ca b zs.length cb, .int .i64 pa, .int .i64 pb] w (Acted lo hi (blocksH a b vs.length ca zs.length cb) (0, vs.set pa (nextC zs (vs.getD pb (-1))), zs) w) := by
  rw [getD_cell hq] at hn ⊢
  obtain ⟨g, rfl, hg1, hg2⟩ := h.v.block_ (by rw [intVals_length]; omega)
  have hhi := h.v.1
  have n0 : ¬ w.heap.size = g := by omega
  have n1 : ¬ w.heap.size + 1 = g := by omega
  have n2 : g < w.heap.size := by omega
  have n3 : g < w.heap.size + 1 := by omega
  have n4 : g < w.heap.size + 1 + 1 := by omega
  have n5 : ¬ w.heap.size + 1 + 1 = g := by omega
  have hold := h.v.cellInt pa hp
  have hsrc := h.v.cellInt pb hq
  have hfr := h.v.frozen_ pa
  obtain ⟨c, hc, hcl⟩ := var_cell hq hgv hn
  rw [hc] at hsrc ⊢
  rw [nextC_at hcl]
  clear hn
  obtain ⟨q, rfl, hq1, hq2⟩ := h.z.block_ (by rw [intVals_length]; omega)
  have m0 : ¬ w.heap.size = q := by omega
  have m1 : ¬ w.heap.size + 1 = q := by omega
  have m2 : q < w.heap.size := by omega
  have m3 : q < w.heap.size + 1 := by omega
  have m4 : q < w.heap.size + 1 + 1 := by omega
  have m5 : ¬ w.heap.size + 1 + 1 = q := by omega
  have hnx := h.z.cellInt c hcl
  go_enter Tryz.func108, Tryz.ntmps108
  go_wp2
  go_region
  all_goals
    go_wp2
    refine bodyPost_ret (v := .tuple #[heV (some ⟨g, 0, none⟩) vs.length ca (some ⟨q, 0, none⟩) zs.length cb, .int .i64 0]) (by simp [results, Tryz.results108, go_sem]) rfl ?_
    refine acted_to (h.setV (k := pa) zs[c]) (turnB_at _ hg1 hg2 (.inl rfl)) List.length_set rfl ?_
    repeat (first | with_reducible exact Below.refl _ _ | refine Below.drew ?_ | refine Below.alloc ?_ (by go_size) _ | refine Below.setCell ?_ (by go_size) _)

set_option maxHeartbeats 800000 in
theorem specDo_6 {lo hi pa pb : Nat} {a b : Option Addr} {ca cb : Nat} {vs zs : List Int} (sa sb : ByteArray) {w : World} (h : HeapIn lo hi w a ca b cb (intVals vs) (intVals zs)) (hp : pa < vs.length) (hq : pb < vs.length) (hgv : goodB zs vs = true) (hn : vs.getD pa (-1) ≠ -1) :
    Calls Tryz.prog 108 #[stV 6 sa sb, heV a vs.length ca b zs.length cb, .int .i64 pa, .int .i64 pb] w (Acted lo hi (blocksH a b vs.length ca zs.length cb) (0, vs, zs.set (vs.getD pa (-1)).toNat (-1)) w) := by
  rw [getD_cell hp] at hn ⊢
  obtain ⟨g, rfl, hg1, hg2⟩ := h.v.block_ (by rw [intVals_length]; omega)
  have hhi := h.v.1
  have n0 : ¬ w.heap.size = g := by omega
  have n1 : ¬ w.heap.size + 1 = g := by omega
  have n2 : g < w.heap.size := by omega
  have n3 : g < w.heap.size + 1 := by omega
  have n4 : g < w.heap.size + 1 + 1 := by omega
  have n5 : ¬ w.heap.size + 1 + 1 = g := by omega
  have hsrc := h.v.cellInt pa hp
  obtain ⟨c, hc, hcl⟩ := var_cell hp hgv hn
  rw [hc] at hsrc ⊢
  rw [Int.toNat_natCast]
  clear hn
  obtain ⟨q, rfl, hq1, hq2⟩ := h.z.block_ (by rw [intVals_length]; omega)
  have m0 : ¬ w.heap.size = q := by omega
  have m1 : ¬ w.heap.size + 1 = q := by omega
  have m2 : q < w.heap.size := by omega
  have m3 : q < w.heap.size + 1 := by omega
  have m4 : q < w.heap.size + 1 + 1 := by omega
  have m5 : ¬ w.heap.size + 1 + 1 = q := by omega
  have hold := h.z.cellInt c hcl
  have hfr := h.z.frozen_ c
  go_enter Tryz.func108, Tryz.ntmps108
  go_wp2
  go_region
  all_goals
    go_wp2
    refine bodyPost_ret (v := .tuple #[heV (some ⟨g, 0, none⟩) vs.length ca (some ⟨q, 0, none⟩) zs.length cb, .int .i64 0]) (by simp [results, Tryz.results108, go_sem]) rfl ?_
    refine acted_to (h.setZ (k := c) (-1)) (turnB_at _ hq1 hq2 (.inr rfl)) rfl List.length_set ?_
    repeat (first | with_reducible exact Below.refl _ _ | refine Below.drew ?_ | refine Below.alloc ?_ (by go_size) _ | refine Below.setCell ?_ (by go_size) _)

end Go.Proofs.YtpmmjaceehlpiaaGreatDoor

namespace Go.Proofs.YtpmmjaceehlpiaaGreatDoor
open Go Go.RowKit Go.ChangeShapes Go.WideShapes Go.ChangeAt

set_option maxRecDepth 100000 in
set_option maxHeartbeats 800000 in
theorem specDo_3 {lo hi pa pb : Nat} {a b : Option Addr} {ca cb : Nat} {vs zs : List Int} (sa sb : ByteArray) {w : World} (h : HeapIn lo hi w a ca b cb (intVals vs) (intVals zs)) (hp : pa < vs.length) (hq : pb < vs.length) (hz6 : zs.length ≤ 6) :
    Calls Tryz.prog 108 #[stV 3 sa sb, heV a vs.length ca b zs.length cb, .int .i64 pa, .int .i64 pb] w (Acted lo hi (blocksH a b vs.length ca zs.length cb) (0, vs.set pa (zs.length : Int), zs ++ [-1]) w) := by
  obtain ⟨i0, hi0, hz0, hz1, hz2⟩ := info_parts intInfoH
  obtain ⟨g, rfl, hg1, hg2⟩ := h.v.block_ (by rw [intVals_length]; omega)
  have hhi := h.v.1
  have n0 : ¬ w.heap.size = g := by omega
  have n1 : ¬ w.heap.size + 1 = g := by omega
  have n2 : g < w.heap.size := by omega
  have n3 : g < w.heap.size + 1 := by omega
  have n4 : g < w.heap.size + 1 + 1 := by omega
  have n5 : ¬ w.heap.size + 1 + 1 = g := by omega
  have hold := h.v.cellInt pa hp
  have hfr := h.v.frozen_ pa
  have h1 := h.setV (k := pa) (zs.length : Int)
  have t1 : TurnB lo hi (blocksH (some ⟨g, 0, none⟩) b vs.length ca zs.length cb) w (w.setCell ⟨g, pa, none⟩ (.int .i64 (zs.length : Int))) := turnB_at _ hg1 hg2 (.inl rfl)
  obtain ⟨W0, hW0, hb0, bs0, bn0, bp0⟩ := three_boxL (w.setCell ⟨g, pa, none⟩ (.int .i64 (zs.length : Int))) [.int .i64 3, .string sa, .string sb] [.slice (some ⟨g, 0, none⟩) vs.length ca, .slice b zs.length cb] [.slice none 0 0, .slice none 0 0] 83 30 30
  replace hW0 : ((((w.setCell ⟨g, pa, none⟩ (.int .i64 (zs.length : Int))).alloc (.cells #[.int .i64 3, .string sa, .string sb] 83)).alloc (.cells #[.slice (some ⟨g, 0, none⟩) vs.length ca, .slice b zs.length cb] 30)).alloc (.cells #[.slice none 0 0, .slice none 0 0] 30)) = W0 := hW0
  have hs0 : (w.setCell ⟨g, pa, none⟩ (.int .i64 (zs.length : Int))).heap.size = w.heap.size := by simp
  rw [hs0] at bs0 bn0 bp0
  have h0 := h1.below hb0
  have T0 := t1.trans (TurnB.of_below hb0)
  have hlow : lo ≤ W0.heap.size := by have := bp0.lt; omega
  have hal := (Below.refl W0.heap.size W0).alloc (Nat.le_refl _) (.cells #[.int .i64 (-1)] 3)
  have h0a := h0.below hal
  have bn0a := bn0.below hal
  have bp0a := bp0.below hal
  have T0a := T0.trans (TurnB.of_below hal)
  have hbig : w.heap.size + 2 < W0.heap.size := bp0.lt
  have hown0a := h0a.z.2.1
  rw [intVals_length] at hown0a
  have k0 := bn0.c 0 _ rfl
  have k1 := bn0.c 1 _ rfl
  clear h1 t1 h bn0 bp0 bs0 hb0 T0 h0
  go_enter Tryz.func108, Tryz.ntmps108
  go_wp2_with (first
    | (at_builtin; (try rw [hW0]); refine wpList_append_own_at _ rfl (.tmp 30) (.tmp 31) 28 rfl lo 3 i0 (.int .i64 0) 1 8 Tryz.underlying28 hi0 hz0 hz1 hz2 rfl (by decide) _ zs.length _ rfl hown0a ⟨W0.heap.size, 0, none⟩ 1 1 [.int .i64 (-1)] rfl rfl (oneCell_at _) (oneCell_int _) (by unfold maxLen; omega) (by omega) (by simp; omega) ?_; intro v5 w5 hown5 hg5 _ hloc; obtain ⟨va5, vc5, rfl, _⟩ := own_shape hown5; obtain ⟨h5, t5, hbl⟩ := h0a.pushZ (S := blocksH (some ⟨g, 0, none⟩) b vs.length ca zs.length cb) (B := W0.heap.size) (x := -1) (by rw [intVals_snoc]; exact hown5) hg5 (hloc.imp id fun e => Exists.intro _ (And.intro e (by simp))) (by omega) (fun k hk => blocksH_any hk); have bn5 := bn0a.turn t5.t (.inr (by omega)); have bp5 := bp0a.turn t5.t (.inr (by omega)); have d0 := bn5.c 0 _ rfl; have d1 := bn5.c 1 _ rfl; have df := bn5.f; have e0 := bp5.c 0 _ rfl; have e1 := bp5.c 1 _ rfl; have ef := bp5.f; have hs5 := bp5.lt; clear bn5 bp5 bn0a bp0a hown5 hg5 hloc h0a hown0a)
    | fail)
  refine bodyPost_ret (v := .tuple #[heV (some ⟨g, 0, none⟩) vs.length ca va5 (zs.length + 1) vc5, .int .i64 0]) (by simp [results, Tryz.results108, go_sem, e0, e1]) rfl ?_
  refine acted_of List.length_set (by simp) ?_ ?_ (fun k hk => (hbl k hk).imp (fun hh => hh.1) (fun hh => by omega))
  · have hs : (((w5.setCell ⟨w.heap.size + 1, 1, none⟩ (.slice va5 (zs.length + 1) vc5)).setCell ⟨w.heap.size + 2, 0, none⟩ (.slice (some ⟨g, 0, none⟩) vs.length ca)).setCell ⟨w.heap.size + 2, 1, none⟩ (.slice va5 (zs.length + 1) vc5)).heap.size = w5.heap.size := by simp
    have hX := ((h5.setNot (Q := w.heap.size + 1) (i := 1) (u := .slice va5 (zs.length + 1) vc5) fun k hk => by have := hbl k hk; omega).setNot (Q := w.heap.size + 2) (i := 0) (u := .slice (some ⟨g, 0, none⟩) vs.length ca) fun k hk => by have := hbl k hk; omega).setNot (Q := w.heap.size + 2) (i := 1) (u := .slice va5 (zs.length + 1) vc5) fun k hk => by have := hbl k hk; omega
    rw [← hs] at hX
    exact hX
  · repeat (first | with_reducible exact T0a.trans t5 | refine TurnB.setNew ?_ (by omega))

set_option maxRecDepth 100000 in
set_option maxHeartbeats 800000 in
theorem specDo_7 {lo hi pa pb : Nat} {a b : Option Addr} {ca cb : Nat} {vs zs : List Int} (sa sb : ByteArray) {w : World} (h : HeapIn lo hi w a ca b cb (intVals vs) (intVals zs)) (hp : pa < vs.length) (hq : pb < vs.length) (hgv : goodB zs vs = true) (hz6 : zs.length ≤ 6) (hn : vs.getD pa (-1) ≠ -1) :
    Calls Tryz.prog 108 #[stV 7 sa sb, heV a vs.length ca b zs.length cb, .int .i64 pa, .int .i64 pb] w (Acted lo hi (blocksH a b vs.length ca zs.length cb) (linkS pa pb vs zs) w) := by
  rw [getD_cell hp] at hn
  obtain ⟨g, rfl, hg1, hg2⟩ := h.v.block_ (by rw [intVals_length]; omega)
  have hhi := h.v.1
  have n0 : ¬ w.heap.size = g := by omega
  have n1 : ¬ w.heap.size + 1 = g := by omega
  have n2 : g < w.heap.size := by omega
  have n3 : g < w.heap.size + 1 := by omega
  have n4 : g < w.heap.size + 1 + 1 := by omega
  have n5 : ¬ w.heap.size + 1 + 1 = g := by omega
  have hsrc := h.v.cellInt pa hp
  obtain ⟨c, hc, hcl⟩ := var_cell hp hgv hn
  rw [hc] at hsrc
  have hsrcb := h.v.cellInt pb hq
  clear hn
  obtain ⟨q, rfl, hq1, hq2⟩ := h.z.block_ (by rw [intVals_length]; omega)
  have m0 : ¬ w.heap.size = q := by omega
  have m1 : ¬ w.heap.size + 1 = q := by omega
  have m2 : q < w.heap.size := by omega
  have m3 : q < w.heap.size + 1 := by omega
  have m4 : q < w.heap.size + 1 + 1 := by omega
  have m5 : ¬ w.heap.size + 1 + 1 = q := by omega
  have HP := Lib.hid hp
  have HQ := Lib.hid hq
  have HC := Lib.hid hc
  obtain ⟨xb, hxb⟩ : ∃ xb, vs[pb]'hq = xb := ⟨_, rfl⟩
  have HXB := Lib.hid hxb
  rw [hxb] at hsrcb
  clear hxb hc
  obtain ⟨W0, hW0, hb0, bs0, bn0, bp0⟩ := three_boxL w [.int .i64 7, .string sa, .string sb] [.slice (some ⟨g, 0, none⟩) vs.length ca, .slice (some ⟨q, 0, none⟩) zs.length cb] [.slice none 0 0, .slice none 0 0] 83 30 30
  replace hW0 : (((w.alloc (.cells #[.int .i64 7, .string sa, .string sb] 83)).alloc (.cells #[.slice (some ⟨g, 0, none⟩) vs.length ca, .slice (some ⟨q, 0, none⟩) zs.length cb] 30)).alloc (.cells #[.slice none 0 0, .slice none 0 0] 30)) = W0 := hW0
  have k0 := bs0.c 0 _ rfl
  have hA : ∀ W, Below W0.heap.size W0 W → (BoxL W w.heap.size [.int .i64 7, .string sa, .string sb] ∧ BoxL W (w.heap.size + 1) [.slice (some ⟨g, 0, none⟩) vs.length ca, .slice (some ⟨q, 0, none⟩) zs.length cb] ∧ BoxL W (w.heap.size + 2) [.slice none 0 0, .slice none 0 0]) ∧ HeapIn lo hi W (some ⟨g, 0, none⟩) ca (some ⟨q, 0, none⟩) cb (intVals vs) (intVals zs) ∧ TurnB lo hi (blocksH (some ⟨g, 0, none⟩) (some ⟨q, 0, none⟩) vs.length ca zs.length cb) w W := fun W hb =>
    ⟨⟨bs0.below hb, bn0.below hb, bp0.below hb⟩, h.turn (lo' := hi) (hi' := hi) (Turn.of_below (hb0.trans (hb.mono hb0.size))) (.inl (Nat.le_refl _)), TurnB.of_below (hb0.trans (hb.mono hb0.size))⟩
  have hS : ∀ W, Below W0.heap.size W0 W → (W.cell? ⟨w.heap.size + 1, 0, none⟩ = some (.slice (some ⟨g, 0, none⟩) vs.length ca) ∧ W.cell? ⟨w.heap.size + 1, 1, none⟩ = some (.slice (some ⟨q, 0, none⟩) zs.length cb)) ∧ (W.cell? ⟨g, pa, none⟩ = some (.int .i64 (c : Int)) ∧ W.cell? ⟨g, pb, none⟩ = some (.int .i64 xb)) := fun W hb =>
    ⟨⟨(hA W hb).1.2.1.c 0 _ rfl, (hA W hb).1.2.1.c 1 _ rfl⟩, by have := (hA W hb).2.1.v.cellInt pa HP.out; rw [HC.out] at this; exact this, by have := (hA W hb).2.1.v.cellInt pb HQ.out; rw [HXB.out] at this; exact this⟩
  have HA := Lib.hid hA
  have HS := Lib.hid hS
  have hD : Below W0.heap.size W0 W0.drew := Below.drew (Below.refl _ _)
  have hfl : (followed zs xb).length ≤ 1048576 := by have := (followed_ok zs xb).len; omega
  obtain ⟨mb, hmb⟩ : ∃ mb, decide ((c : Int) ∈ followed zs xb) = mb := ⟨_, rfl⟩
  have HMB := Lib.hid hmb
  clear hmb hA hS h bs0 bn0 bp0 hb0
  go_enter Tryz.func108, Tryz.ntmps108
  go_wp2
  clear hW0
  go_region_held3 (fun W => (W.cell? ⟨w.heap.size + 1, 0, none⟩ = some (.slice (some ⟨g, 0, none⟩) vs.length ca) ∧ W.cell? ⟨w.heap.size + 1, 1, none⟩ = some (.slice (some ⟨q, 0, none⟩) zs.length cb)) ∧ (W.cell? ⟨g, pa, none⟩ = some (.int .i64 (c : Int)) ∧ W.cell? ⟨g, pb, none⟩ = some (.int .i64 xb)))
    (first | exact HS.out _ hD | exact HS.out _ (Below.drew hD) | exact HS.out _ H1 | exact HS.out _ H2)
    (first
      | (go_at_call 114; (with_reducible refine (specFollowed (some ⟨g, 0, none⟩) (some ⟨q, 0, none⟩) vs.length ca cb zs xb _ (by omega) (HA.out _ hD).2.1.rows.z).mono ?_); rintro e w1 ⟨fa, fc, rfl, _, hf1, hb1⟩; rw [intVals_length] at hf1 ⊢; have H1 := hD.trans (hb1.mono hD.size))
      | (go_at_call 115; (with_reducible refine (specHas fa fc (followed zs xb) (c : Int) _ hfl (Row.owned hf1)).mono ?_); rw [HMB.out]; rintro e w2 ⟨rfl, hb2⟩; have H2 := H1.trans (hb2.mono H1.size)))
  obtain ⟨⟨bs1, bn1, bp1⟩, h1, T1⟩ := HA.out _ H2
  have d0 := bn1.c 0 _ rfl
  have d1 := bn1.c 1 _ rfl
  have d2 := bp1.c 0 _ rfl
  have d3 := bp1.c 1 _ rfl
  have df := bp1.f
  have hs1 := bp1.lt
  have k0 := h1.v.cellInt pa hp
  rw [HC.out] at k0
  have k1 := h1.v.cellInt pb hq
  rw [HXB.out] at k1
  have k2 := h1.z.cellInt c hcl
  have k3 := h1.z.frozen_ c
  clear HA HS hD H1 H2 hb1 hb2 hf1 hsrc hsrcb hfl bs1 bn1 bp1
  cases mb
  case' true =>
    have HR := Lib.hid (link_ring hp hq HC.out (by rw [HXB.out]; exact of_decide_eq_true HMB.out))
    go_wp2
    refine bodyPost_ret (v := .tuple #[heV none 0 0 none 0 0, .int .i64 3]) (by simp [results, Tryz.results108, go_sem, d2, d3]) rfl ?_
    rw [HR.out]
    refine acted_bad ?_
    repeat (first | with_reducible exact T1 | refine TurnB.setNew ?_ (by omega))
  case' false =>
    have hlo := link_ok hp hq HC.out (by rw [HXB.out]; exact of_decide_eq_false HMB.out)
    rw [HXB.out] at hlo
    have HR := Lib.hid hlo
    clear hlo
    go_wp2
    go_region
    all_goals
      go_wp2
      refine bodyPost_ret (v := .tuple #[heV (some ⟨g, 0, none⟩) vs.length ca (some ⟨q, 0, none⟩) zs.length cb, .int .i64 0]) (by simp [results, Tryz.results108, go_sem, d2, d3]) rfl ?_
      rw [HR.out]
      have hX := heap_box (Q := w.heap.size + 2) (u := .slice (some ⟨g, 0, none⟩) vs.length ca) (v := .slice (some ⟨q, 0, none⟩) zs.length cb) (h1.setZ (k := c) xb) (T1.trans (turnB_at (.int .i64 xb) hq1 hq2 (.inr rfl))) hhi (by omega)
      exact acted_of rfl List.length_set hX.1.draws hX.2.draws

end Go.Proofs.YtpmmjaceehlpiaaGreatDoor
/-
  A region that draws its order, in which what is read is written only by operations that wait for all reads: the reads may come up first, in the text's order, under a condition on the world that those last operations need not keep. Nothing here knows of the program.
  The model's heap without a cell.
-/
namespace Go.Proofs.YtpmmjaceehlpiaaGreatDoor
open Go

section
variable {P : Program} {ops : Array Oper} {Q : Exit → Act → World → Prop} {S : World → Prop} {B : Nat → Bool}

/-- Whatever order is drawn: behind each operation for which B says so, S holds. -/
def anyKeep (P : Program) (ops : Array Oper) (Q : Exit → Act → World → Prop) (S : World → Prop) (B : Nat → Bool) : Nat → Array Bool → Act → World → Prop
  | 0, listed, a, w => Region.ready .any ops listed = [] ∧ Q .normal a w
  | f + 1, listed, a, w => (Region.ready .any ops listed = [] → Q .normal a w) ∧
      ∀ i ∈ Region.ready .any ops listed, wpOp P ops Q i (fun a' w' => (B i = true → S w') ∧ anyKeep P ops Q S B f (listed.setIfInBounds i true) a' w') a w
theorem anyKeep.forget : ∀ (f : Nat) (listed : Array Bool) (a : Act) (w : World), anyKeep P ops Q S B f listed a w → wpAny P .any ops Q f listed a w
  | 0, _, _, _, h => h
  | _ + 1, _, _, _, h => ⟨h.1, fun i hi => wpOp_mono (fun _ _ k => k.2.forget) (h.2 i hi)⟩
/-- Operations for which B does not speak wait for read i. -/
def waitB (ops : Array Oper) (B : Nat → Bool) (i : Nat) : Bool :=
  (List.range ops.size).all fun j => B j || match ops[j]? with
    | some o => o.after.any fun e => Region.binds .any e && e.on == i
    | none => true
theorem waitB_spec {i j : Nat} {o : Oper} (h : waitB ops B i = true) (hj : ops[j]? = some o) (hno : ∀ e ∈ o.after, Region.binds .any e = true → e.on ≠ i) : B j = true := by
  have h1 := List.all_eq_true.1 h j (List.mem_range.2 (Array.getElem?_eq_some_iff.1 hj).1)
  simp only [hj, Bool.or_eq_true] at h1
  rcases h1 with h1 | h1
  · exact h1
  · obtain ⟨e, he, h2⟩ := Array.any_eq_true'.1 h1
    simp only [Bool.and_eq_true, beq_iff_eq] at h2
    exact absurd h2.2 (hno e he h2.1)

/-- A read that may come up now may come up first. -/
theorem anyKeep.read {i : Nat} {oi : Oper} {v : Value} (hB : waitB ops B i = true) (hi : ops[i]? = some oi) (hs : Region.noSelect ops = true) (hQ : ∀ c a w, Q (.panic c) (a.put oi.dst v) w → Q (.panic c) a w) :
    ∀ (f : Nat) (listed : Array Bool) (a : Act) (w : World), (∀ j oj, ops[j]? = some oj → j ≠ i → listed.getD j true = false → (∀ e ∈ oj.after, Region.binds .any e = true → e.on ≠ i) → oi.apart ops oj = true) →
      i ∈ Region.ready .any ops listed → YieldsIf P ops S oi v a → S w → anyKeep P ops Q S B f (listed.setIfInBounds i true) (a.put oi.dst v) w → anyKeep P ops Q S B (f + 1) listed a w
  | f, listed, a, w, hfree, hr, hy, hS, H => by
    refine ⟨fun e => (by rw [e] at hr; cases hr), fun j hj => ?_⟩
    by_cases e : j = i
    · rw [e]
      exact hy.wpOp hi hS ⟨fun _ => hS, H⟩
    · have hun := (mem_ready.1 hr).1
      obtain ⟨hju, oj, hoj, hall⟩ := mem_ready.1 hj
      have hno : ∀ d ∈ oj.after, Region.binds .any d = true → d.on ≠ i := fun d hd hb he => by
        have h1 := hall d hd hb
        rw [he] at h1
        rcases Nat.lt_or_ge i listed.size with hl | hl
        · simp [hl] at h1 hun
          rw [h1] at hun
          cases hun
        · simp [Array.getElem?_eq_none hl] at h1
      have hkept := waitB_spec hB hoj hno
      match f, H with
      | 0, H =>
        have h1 := ready_mono hj e
        rw [H.1] at h1
        cases h1
      | f + 1, H =>
        refine wpOp_mono (fun a' w' k => ⟨fun _ => k.2.1 hkept, anyKeep.read hB hi hs hQ f _ a' w' (fun q oq hq hqi hqu hqn => hfree q oq hq hqi ?_ hqn) (ready_mono hr (Ne.symm e)) k.1 (k.2.1 hkept) ?_⟩)
          (wpOp_putIf hoj (hfree j oj hoj e hju hno) (fun cs b => Region.noSelect_spec hs i oi cs b hi) (fun cs b => Region.noSelect_spec hs j oj cs b hoj) hQ hy (H.2 j (ready_mono hj e)))
        · by_cases hjq : j = q
          · rw [← hjq]
            exact hju
          · rwa [getD_set_ne true hjq] at hqu
        · rw [Array.setIfInBounds_comm _ _ e]
          exact k.2.2
/-- .. in a walk: the side conditions as Bools. -/
theorem anyKeep.take {i f : Nat} {oi : Oper} {v : Value} {listed : Array Bool} {a : Act} {w : World} (hi : ops[i]? = some oi) (hB : waitB ops B i = true) (hs : Region.noSelect ops = true) (hf : Region.free .any ops listed i = true)
    (hr : (Region.ready .any ops listed).contains i = true) (hQ : ∀ c a w, Q (.panic c) (a.put oi.dst v) w → Q (.panic c) a w) (hg : oi.guard = none) (hy : ∀ w, S w → (execOp a.eval oi).run P w = .ok (.value v) w) (hS : S w)
    (h : anyKeep P ops Q S B f (listed.setIfInBounds i true) (a.put oi.dst v) w) : anyKeep P ops Q S B (f + 1) listed a w :=
  anyKeep.read hB hi hs hQ f listed a w (Region.free_spec hi hf) (by simpa using hr) (.inl ⟨by simp [Region.wanted, hg], hy⟩) hS h
/-- Only one operation may come up. -/
theorem anyKeep.one {k f : Nat} {o : Oper} {listed : Array Bool} {a : Act} {w : World} (hr : Region.ready .any ops listed = [k]) (hk : ops[k]? = some o)
    (h : ∀ K : Act → World → Prop, (∀ a' w', (B k = true → S w') → anyKeep P ops Q S B f (listed.setIfInBounds k true) a' w' → K a' w') → if Region.wanted o (yielded ops a.tmps) = true then Oper.wp P o a w K Q else K (a.put o.dst undef) w) :
    anyKeep P ops Q S B (f + 1) listed a w := by
  refine ⟨fun e => (by rw [hr] at e; cases e), fun i hi => ?_⟩
  rw [hr] at hi
  obtain rfl := List.mem_singleton.1 hi
  have h1 := h (fun a' w' => (B i = true → S w') ∧ anyKeep P ops Q S B f (listed.setIfInBounds i true) a' w') fun a' w' hS hh => ⟨hS, hh⟩
  unfold wpOp
  simp only [hk]
  split
  · rename_i hw
    rw [if_pos hw] at h1
    exact .inl h1
  · rename_i hw
    rw [if_neg hw] at h1
    exact h1
theorem anyKeep.done {f : Nat} {listed : Array Bool} {a : Act} {w : World} (hr : Region.ready .any ops listed = []) (h : Q .normal a w) : anyKeep P ops Q S B f listed a w := by
  cases f with
  | zero => exact ⟨hr, h⟩
  | succ f => exact ⟨fun _ => h, fun i hi => by rw [hr] at hi; cases hi⟩
theorem wp_region_keep {id : Nat} {a : Act} {w : World} (hm : P.follows .mixedOrders = true) (h : anyKeep P ops Q S B ops.size (Array.replicate ops.size false) a w.drew) : (Code.region id ops true).wp P Q a w :=
  wp_region_any hm (anyKeep.forget _ _ _ _ h)
end
end Go.Proofs.YtpmmjaceehlpiaaGreatDoor

namespace Go.Proofs.YtpmmjaceehlpiaaGreatDoor
open Go Go.RowKit Go.ChangeShapes Go.WideShapes Go.ChangeAt

/-- What the walk keeps: the argument's box, the answer's box, the heap so far in a box. -/
structure So (w : World) (u0 u1 x y : Value) (W : World) : Prop where
  below : Below w.heap.size w W
  arg : BoxL W w.heap.size [u0, u1]
  res : BoxL W (w.heap.size + 1) [.slice none 0 0, .slice none 0 0]
  out : BoxL W (w.heap.size + 2) [x, y]
section
variable {w W W' : World} {u0 u1 x y : Value} {lo hi : Nat}
theorem So.turn (h : So w u0 u1 x y W) (t : Turn lo hi W W') (hl : w.heap.size + 3 ≤ lo) : So w u0 u1 x y W' :=
  ⟨t.below h.below (by omega) h.below.size, h.arg.turn t (.inl (by omega)), h.res.turn t (.inl (by omega)), h.out.turn t (.inl (by omega))⟩
theorem So.call (h : So w u0 u1 x y W) (hb : Below W.heap.size W W') : So w u0 u1 x y W' :=
  ⟨h.below.trans (hb.mono h.below.size), h.arg.below hb, h.res.below hb, h.out.below hb⟩
theorem So.set0 (h : So w u0 u1 x y W) (u : Value) : So w u0 u1 u y (W.setCell ⟨w.heap.size + 2, 0, none⟩ u) :=
  have ts := turn_set W (w.heap.size + 2) 0 u
  ⟨h.below.setCell (by show w.heap.size ≤ w.heap.size + 2; omega) u, h.arg.turn ts (.inl (by omega)), h.res.turn ts (.inl (by omega)), h.out.set 0 u⟩
theorem So.set1 (h : So w u0 u1 x y W) (u : Value) : So w u0 u1 x u (W.setCell ⟨w.heap.size + 2, 1, none⟩ u) :=
  have ts := turn_set W (w.heap.size + 2) 1 u
  ⟨h.below.setCell (by show w.heap.size ≤ w.heap.size + 2; omega) u, h.arg.turn ts (.inl (by omega)), h.res.turn ts (.inl (by omega)), h.out.set 1 u⟩
end

def bitZ (t : Bool) : Int := if t then 1 else 0
theorem specBit (t : Bool) (w : World) : Calls Tryz.prog 166 #[.bool t] w fun e w' => e = .returned (.int .i64 (bitZ t)) ∧ w = w' := by
  cases t
  all_goals
    go_enter Tryz.func166, Tryz.ntmps166
    go_wp2
    go_ret
    exact ⟨rfl, rfl⟩
/-- A row without its c-th element, so far. -/
def lessL (zs : List Int) (c k : Nat) : List Int := (zs.take k).eraseIdx c
theorem lessL_skip {zs : List Int} {c : Nat} (h : c < zs.length) : lessL zs c (c + 1) = lessL zs c c := by
  have hl : (zs.take c).length = c := by simp; omega
  unfold lessL
  rw [take_next zs c h, List.eraseIdx_append_of_length_le (by omega), hl, Nat.sub_self, List.eraseIdx_of_length_le (l := zs.take c) (by omega)]
  simp
theorem lessL_next {zs : List Int} {c k : Nat} (h : k < zs.length) (hne : k ≠ c) : lessL zs c (k + 1) = lessL zs c k ++ [zs[k]] := by
  unfold lessL
  rw [take_next zs k h]
  by_cases hk : c < k
  · rw [List.eraseIdx_append_of_lt_length (by simp; omega)]
  · rw [List.eraseIdx_of_length_le (by simp; omega), List.eraseIdx_of_length_le (by simp; omega)]

theorem lessL_le {zs : List Int} {c k : Nat} : (lessL zs c k).length ≤ k := Nat.le_trans (List.length_eraseIdx_le _ _) (by simp; omega)

set_option maxRecDepth 100000 in
set_option maxHeartbeats 3200000 in
theorem specWithout (c : Nat) (a b : Option Addr) (ca cb : Nat) (vs zs : List Int) (w : World) (hv : vs.length ≤ 4) (hz : zs.length ≤ 6) (hc : c < zs.length) (hbv : ∀ x ∈ vs, -1 ≤ x ∧ x ≤ 6) (hbz : ∀ x ∈ zs, -1 ≤ x ∧ x ≤ 6) (h : HeapAt w a b vs zs) :
    Calls Tryz.prog 158 #[heV a vs.length ca b zs.length cb, .int .i64 (c : Int)] w (MadeHeap (vs.map (lowC c)) ((zs.eraseIdx c).map (lowC c)) w) := by
  obtain ⟨i0, hi, hz0, hz1, hz2⟩ := info_parts intInfoH
  have HAT := Lib.hid h
  have HBV := Lib.hid hbv
  have HBZ := Lib.hid hbz
  clear h hbv hbz
  go_enter Tryz.func158, Tryz.ntmps158
  go_wp2
  obtain ⟨W0, hW0, hb0, ba0, br0, bo0⟩ := three_boxL w [.slice a vs.length ca, .slice b zs.length cb] [.slice none 0 0, .slice none 0 0] [.slice none 0 0, .slice none 0 0] 30 30 30
  replace hW0 : ((w.alloc (.cells #[.slice a vs.length ca, .slice b zs.length cb] 30)).alloc (.cells #[.slice none 0 0, .slice none 0 0] 30)).alloc (.cells #[.slice none 0 0, .slice none 0 0] 30) = W0 := hW0
  rw [hW0]
  clear hW0
  have hS0 : So w (.slice a vs.length ca) (.slice b zs.length cb) (.slice none 0 0) (.slice none 0 0) W0 := ⟨hb0, ba0, br0, bo0⟩
  clear hb0 ba0 br0 bo0
  go_loopw [6] (fun i wr => ∃ (k : Nat) (v : Value), k ≤ vs.length ∧ i = .int .i64 k ∧ So w (.slice a vs.length ca) (.slice b zs.length cb) v (.slice none 0 0) wr ∧ wr.ownsRow (w.heap.size + 3) 3 1 v k (intVals ((vs.take k).map (lowC c))))
    (fun i _ => vs.length - (intOf i).toNat)
  case atStart => exact ⟨0, _, Nat.zero_le _, rfl, hS0, World.ownsRow_nil _ _ _ _⟩
  case round =>
    clear hS0
    obtain ⟨k, v, hk, rfl, hS, hown⟩ := hrel
    obtain ⟨va, vca, rfl, hvc⟩ := own_shape hown
    have q0 := hS.arg.c 0 _ rfl
    have o0 := hS.out.c 0 _ rfl
    have hlt3 := hS.out.lt
    by_cases hlt : k < vs.length
    · obtain ⟨bv, ov, ha, hbv, hcv⟩ := HAT.out.v k _ (intVals_at vs k hlt)
      have hbd := HBV.out _ (List.getElem_mem hlt)
      have hnx := map_take_next (lowC c) vs k hlt
      have HNX := Lib.hid hnx
      generalize vs[k] = x at *
      clear hnx
      subst ha
      have HD := Lib.hid (hS.call (Below.drew (Below.refl _ _)))
      have HO := Lib.hid (own_drew hown)
      clear hS hown
      obtain ⟨tb, htb⟩ : ∃ tb, decide ((c : Int) < x) = tb := ⟨_, rfl⟩
      have hlow : IntKind.i64.wrap (x - bitZ tb) = lowC c x := by
        rw [IntKind.wrap_i64]
        unfold lowC bitZ
        rw [← htb]
        by_cases hx : (c : Int) < x
        · simp only [hx, decide_true, if_true]
          omega
        · simp only [hx, decide_false, if_false, Bool.false_eq_true]
          omega
      generalize lowC c x = lx at *
      have hSof : ∀ W, So w (.slice (some ⟨bv, ov, none⟩) vs.length ca) (.slice b zs.length cb) (.slice va k vca) (.slice none 0 0) W → W.cell? ⟨w.heap.size + 2, 0, none⟩ = some (.slice va k vca) ∧ W.cell? ⟨w.heap.size, 0, none⟩ = some (.slice (some ⟨bv, ov, none⟩) vs.length ca) ∧ W.cell? ⟨bv, ov + k, none⟩ = some (.int .i64 x) := fun W h =>
        ⟨h.out.c 0 _ rfl, h.arg.c 0 _ rfl, (h.below.cell (p := ⟨bv, ov + k, none⟩) hbv).trans hcv⟩
      have hSd := hSof _ HD.out
      go_wp2
      refine wp_region_keep (S := fun W => W.cell? ⟨w.heap.size + 2, 0, none⟩ = some (.slice va k vca) ∧ W.cell? ⟨w.heap.size, 0, none⟩ = some (.slice (some ⟨bv, ov, none⟩) vs.length ca) ∧ W.cell? ⟨bv, ov + k, none⟩ = some (.int .i64 x)) (B := fun j => decide (j ≠ 19)) (by kernel_rfl) ?_
      refine anyKeep.take (i := 0) (v := ?_) rfl (by kernel_rfl) (by kernel_rfl) (by kernel_rfl) (by kernel_rfl) (fun _ _ _ h => h) rfl ?_ hSd ?_
      rotate_left
      · rintro w' ⟨h1, h2, h3⟩
        go_simp
        try with_reducible rfl
      simp only [Act.put, List.setIfInBounds_toArray]
      refine anyKeep.take (i := 1) (v := ?_) rfl (by kernel_rfl) (by kernel_rfl) (by kernel_rfl) (by kernel_rfl) (fun _ _ _ h => h) rfl ?_ hSd ?_
      rotate_left
      · rintro w' ⟨h1, h2, h3⟩
        go_simp
        try with_reducible rfl
      simp only [Act.put]
      refine anyKeep.take (i := 2) (v := ?_) rfl (by kernel_rfl) (by kernel_rfl) (by kernel_rfl) (by kernel_rfl) (fun _ _ _ h => h) rfl ?_ hSd ?_
      rotate_left
      · rintro w' ⟨h1, h2, h3⟩
        go_simp
        try with_reducible rfl
      simp only [Act.put]
      refine anyKeep.take (i := 3) (v := ?_) rfl (by kernel_rfl) (by kernel_rfl) (by kernel_rfl) (by kernel_rfl) (fun _ _ _ h => h) rfl ?_ hSd ?_
      rotate_left
      · rintro w' ⟨h1, h2, h3⟩
        go_simp
        try with_reducible rfl
      simp only [Act.put]
      refine anyKeep.take (i := 4) (v := ?_) rfl (by kernel_rfl) (by kernel_rfl) (by kernel_rfl) (by kernel_rfl) (fun _ _ _ h => h) rfl ?_ hSd ?_
      rotate_left
      · rintro w' ⟨h1, h2, h3⟩
        go_simp
        try with_reducible rfl
      simp only [Act.put]
      refine anyKeep.take (i := 5) (v := ?_) rfl (by kernel_rfl) (by kernel_rfl) (by kernel_rfl) (by kernel_rfl) (fun _ _ _ h => h) rfl ?_ hSd ?_
      rotate_left
      · rintro w' ⟨h1, h2, h3⟩
        go_simp
        try with_reducible rfl
      simp only [Act.put]
      refine anyKeep.take (i := 6) (v := ?_) rfl (by kernel_rfl) (by kernel_rfl) (by kernel_rfl) (by kernel_rfl) (fun _ _ _ h => h) rfl ?_ hSd ?_
      rotate_left
      · rintro w' ⟨h1, h2, h3⟩
        go_simp
        try with_reducible rfl
      simp only [Act.put]
      refine anyKeep.take (i := 7) (v := ?_) rfl (by kernel_rfl) (by kernel_rfl) (by kernel_rfl) (by kernel_rfl) (fun _ _ _ h => h) rfl ?_ hSd ?_
      rotate_left
      · rintro w' ⟨h1, h2, h3⟩
        go_simp
        try with_reducible rfl
      simp only [Act.put]
      refine anyKeep.take (i := 8) (v := ?_) rfl (by kernel_rfl) (by kernel_rfl) (by kernel_rfl) (by kernel_rfl) (fun _ _ _ h => h) rfl ?_ hSd ?_
      rotate_left
      · rintro w' ⟨h1, h2, h3⟩
        go_simp
        try with_reducible rfl
      simp only [Act.put]
      refine anyKeep.take (i := 9) (v := ?_) rfl (by kernel_rfl) (by kernel_rfl) (by kernel_rfl) (by kernel_rfl) (fun _ _ _ h => h) rfl ?_ hSd ?_
      rotate_left
      · rintro w' ⟨h1, h2, h3⟩
        go_simp
        try with_reducible rfl
      simp only [Act.put]
      refine anyKeep.take (i := 10) (v := ?_) rfl (by kernel_rfl) (by kernel_rfl) (by kernel_rfl) (by kernel_rfl) (fun _ _ _ h => h) rfl ?_ hSd ?_
      rotate_left
      · rintro w' ⟨h1, h2, h3⟩
        go_simp
        try with_reducible rfl
      simp only [Act.put]
      refine anyKeep.take (i := 11) (v := ?_) rfl (by kernel_rfl) (by kernel_rfl) (by kernel_rfl) (by kernel_rfl) (fun _ _ _ h => h) rfl ?_ hSd ?_
      rotate_left
      · rintro w' ⟨h1, h2, h3⟩
        go_simp
        try with_reducible rfl
      simp only [Act.put]
      refine anyKeep.take (i := 12) (v := ?_) rfl (by kernel_rfl) (by kernel_rfl) (by kernel_rfl) (by kernel_rfl) (fun _ _ _ h => h) rfl ?_ hSd ?_
      rotate_left
      · rintro w' ⟨h1, h2, h3⟩
        go_simp
        try with_reducible rfl
      simp only [Act.put]
      refine anyKeep.take (i := 13) (v := ?_) rfl (by kernel_rfl) (by kernel_rfl) (by kernel_rfl) (by kernel_rfl) (fun _ _ _ h => h) rfl ?_ hSd ?_
      rotate_left
      · rintro w' ⟨h1, h2, h3⟩
        go_simp
        try with_reducible rfl
      simp only [Act.put]
      refine anyKeep.one (k := 14) (by kernel_rfl) rfl (fun K hK => ?_)
      go_simp
      go_at_call 166
      refine (specBit _ _).mono ?_
      rintro e w5 ⟨rfl, rfl⟩
      refine hK _ _ (fun _ => hSd) ?_
      clear hK K
      try simp only [Act.put, List.setIfInBounds_toArray]
      refine anyKeep.take (i := 15) (v := ?_) rfl (by kernel_rfl) (by kernel_rfl) (by kernel_rfl) (by kernel_rfl) (fun _ _ _ h => h) rfl ?_ hSd ?_
      rotate_left
      · rintro w' ⟨h1, h2, h3⟩
        go_simp
        try with_reducible rfl
      simp only [Act.put, List.setIfInBounds_toArray]
      refine anyKeep.one (k := 16) (by kernel_rfl) rfl (fun K hK => ?_)
      go_simp
      refine hK _ _ (fun _ => hSof _ (HD.out.call ((Below.refl _ _).alloc (Nat.le_refl _) _))) ?_
      clear hK K
      try simp only [Act.put, List.setIfInBounds_toArray]
      refine anyKeep.one (k := 17) (by kernel_rfl) rfl (fun K hK => ?_)
      refine step_append_lies _ rfl (.tmp 17) (.tmp 32) 28 rfl (w.heap.size + 3) 3 i0 (.int .i64 0) 1 8 Tryz.underlying28 hi hz0 hz1 hz2 rfl (by decide) (.slice va k vca) k (intVals ((vs.take k).map (lowC c))) ?_ (HO.out.alloc _) ⟨wr.heap.size, 0, none⟩ 1 1 [.int .i64 lx] ?_ rfl ?_ ?_ (by omega) ?_ ?_ ?_ _ rfl ?_
      · simp [Act.eval]
      · simp [Act.eval]
      · exact oneCell_at (w := wr.drew) _
      · exact oneCell_int _
      · unfold maxLen; omega
      · omega
      · show w.heap.size + 3 ≤ _
        simp
        omega
      intro g9 cap9 w9 hown9 hg9 hat9 hlt9
      have T9 : Turn (w.heap.size + 3) w9.heap.size _ w9 := Turn.of_grown hg9 (fun j hj => ⟨(HO.out.lt j hj).1, by have h2 : j < wr.heap.size := (HO.out.lt j hj).2; have h1 : wr.heap.size + 1 ≤ w9.heap.size := (by have := hg9.size; simpa using this); omega⟩)
      have D9 := (HD.out.call ((Below.refl _ _).alloc (Nat.le_refl _) _)).turn T9 (by omega)
      refine hK _ _ (fun _ => hSof _ D9) ?_
      clear hK K hSd
      have d9 := D9.out.c 0 _ rfl
      have pf9 := D9.out.f
      try simp only [Act.put, List.setIfInBounds_toArray]
      refine anyKeep.one (k := 18) (by kernel_rfl) rfl (fun K hK => ?_)
      go_simp
      refine hK _ _ (fun _ => hSof _ D9) ?_
      clear hK K hSof
      try simp only [Act.put, List.setIfInBounds_toArray, List.set_cons_zero, List.set_cons_succ]
      refine anyKeep.one (k := 19) (by kernel_rfl) rfl (fun K hK => ?_)
      go_simp
      refine hK _ _ (fun e => by simp at e) ?_
      clear hK K
      refine anyKeep.done (by kernel_rfl) ?_
      have hrel := D9.set0 (.slice (some ⟨g9, 0, none⟩) (k + 1) cap9)
      have hown10 : (w9.setCell ⟨w.heap.size + 2, 0, none⟩ (.slice (some ⟨g9, 0, none⟩) (k + 1) cap9)).ownsRow (w.heap.size + 3) 3 1 (.slice (some ⟨g9, 0, none⟩) (k + 1) cap9) (k + 1) (intVals ((vs.take (k + 1)).map (lowC c))) := by
        rw [HNX.out, intVals_snoc]
        exact ownsRow_setCell_below hown9 (a := ⟨w.heap.size + 2, 0, none⟩) (Nat.lt_succ_self _) _
      go_wp2
      go_roundw
      case rel => first | exact ⟨k + 1, _, by omega, by go_num, hrel, hown10⟩ | ((repeat apply Exists.intro); exact ⟨⟨k + 1, _, by omega, by go_num, hrel, hown10⟩, rfl⟩)
      case measure => simp [intOf]; omega
    · have hk' : k = vs.length := by omega
      subst hk'
      rw [List.take_length] at hown
      have hV0 := OwnIn.of hown
      have hMw : w.heap.size + 3 ≤ wr.heap.size := by omega
      clear hown hlt
      go_wp2
      generalize hM : wr.heap.size = M at *
      go_loopw [7] (fun i wr => ∃ (k n : Nat) (v : Value), k ≤ zs.length ∧ i = .int .i64 k ∧ So w (.slice a vs.length ca) (.slice b zs.length cb) (.slice va vs.length vca) v wr ∧ OwnIn (w.heap.size + 3) M wr 3 1 (.slice va vs.length vca) vs.length (intVals (vs.map (lowC c))) ∧ n = (lessL zs c k).length ∧ wr.ownsRow M 3 1 v n (intVals ((lessL zs c k).map (lowC c))))
        (fun i _ => zs.length - (intOf i).toNat)
      case atStart => exact ⟨0, 0, _, Nat.zero_le _, rfl, hS, hV0, rfl, World.ownsRow_nil _ _ _ _⟩
      case round =>
        clear hS hV0 q0 o0 hlt3 hM
        obtain ⟨k, n, v, hk, rfl, hS, hV, hn, hown⟩ := hrel
        obtain ⟨na, nca, rfl, hnc⟩ := own_shape hown
        have q0 := hS.arg.c 1 _ rfl
        have o0 := hS.out.c 1 _ rfl
        have hlt3 := hS.out.lt
        by_cases hlt : k < zs.length
        · by_cases hkc : k = c
          · subst hkc
            rw [← lessL_skip hlt] at hn hown
            go_wp2
            go_roundw
            case rel => first | exact ⟨k + 1, n, _, by omega, by go_num, hS, hV, hn, hown⟩ | ((repeat apply Exists.intro); exact ⟨⟨k + 1, n, _, by omega, by go_num, hS, hV, hn, hown⟩, rfl⟩)
            case measure => simp [intOf]; omega
          · obtain ⟨bv, ov, ha, hbv, hcv⟩ := HAT.out.z k _ (intVals_at zs k hlt)
            have hbd := HBZ.out _ (List.getElem_mem hlt)
            have hnx := lessL_next hlt hkc
            have hkc' : ¬ (k : Int) = (c : Int) := by omega
            generalize zs[k] = x at *
            subst ha
            have hnx1 : ((lessL zs c (k + 1)).map (lowC c)) = (lessL zs c k).map (lowC c) ++ [lowC c x] := by rw [hnx, List.map_append]; rfl
            have hn1 : n + 1 = (lessL zs c (k + 1)).length := by rw [hnx, hn]; simp
            have hn6 : n ≤ 6 := by have : (lessL zs c k).length ≤ k := lessL_le; omega
            have HNX := Lib.hid hnx1
            have HN1 := Lib.hid hn1
            have HN := Lib.hid hn
            clear hnx hnx1 hn1 hn
            have HD := Lib.hid (hS.call (Below.drew (Below.refl _ _)))
            have HO := Lib.hid (own_drew hown)
            have HV := Lib.hid (hV.below (Below.drew (Below.refl _ _)))
            have hMW := hV.1
            clear hS hown hV
            obtain ⟨tb, htb⟩ : ∃ tb, decide ((c : Int) < x) = tb := ⟨_, rfl⟩
            have hlow : IntKind.i64.wrap (x - bitZ tb) = lowC c x := by
              rw [IntKind.wrap_i64]
              unfold lowC bitZ
              rw [← htb]
              by_cases hx : (c : Int) < x
              · simp only [hx, decide_true, if_true]
                omega
              · simp only [hx, decide_false, if_false, Bool.false_eq_true]
                omega
            generalize lowC c x = lx at *
            have hSof : ∀ W, So w (.slice a vs.length ca) (.slice (some ⟨bv, ov, none⟩) zs.length cb) (.slice va vs.length vca) (.slice na n nca) W → W.cell? ⟨w.heap.size + 2, 1, none⟩ = some (.slice na n nca) ∧ W.cell? ⟨w.heap.size, 1, none⟩ = some (.slice (some ⟨bv, ov, none⟩) zs.length cb) ∧ W.cell? ⟨bv, ov + k, none⟩ = some (.int .i64 x) := fun W h =>
              ⟨h.out.c 1 _ rfl, h.arg.c 1 _ rfl, (h.below.cell (p := ⟨bv, ov + k, none⟩) hbv).trans hcv⟩
            have hSd := hSof _ HD.out
            go_wp2
            refine wp_region_keep (S := fun W => W.cell? ⟨w.heap.size + 2, 1, none⟩ = some (.slice na n nca) ∧ W.cell? ⟨w.heap.size, 1, none⟩ = some (.slice (some ⟨bv, ov, none⟩) zs.length cb) ∧ W.cell? ⟨bv, ov + k, none⟩ = some (.int .i64 x)) (B := fun j => decide (j ≠ 19)) (by kernel_rfl) ?_
            refine anyKeep.take (i := 0) (v := ?_) rfl (by kernel_rfl) (by kernel_rfl) (by kernel_rfl) (by kernel_rfl) (fun _ _ _ h => h) rfl ?_ hSd ?_
            rotate_left
            · rintro w' ⟨h1, h2, h3⟩
              go_simp
              try with_reducible rfl
            simp only [Act.put, List.setIfInBounds_toArray]
            refine anyKeep.take (i := 1) (v := ?_) rfl (by kernel_rfl) (by kernel_rfl) (by kernel_rfl) (by kernel_rfl) (fun _ _ _ h => h) rfl ?_ hSd ?_
            rotate_left
            · rintro w' ⟨h1, h2, h3⟩
              go_simp
              try with_reducible rfl
            simp only [Act.put]
            refine anyKeep.take (i := 2) (v := ?_) rfl (by kernel_rfl) (by kernel_rfl) (by kernel_rfl) (by kernel_rfl) (fun _ _ _ h => h) rfl ?_ hSd ?_
            rotate_left
            · rintro w' ⟨h1, h2, h3⟩
              go_simp
              try with_reducible rfl
            simp only [Act.put]
            refine anyKeep.take (i := 3) (v := ?_) rfl (by kernel_rfl) (by kernel_rfl) (by kernel_rfl) (by kernel_rfl) (fun _ _ _ h => h) rfl ?_ hSd ?_
            rotate_left
            · rintro w' ⟨h1, h2, h3⟩
              go_simp
              try with_reducible rfl
            simp only [Act.put]
            refine anyKeep.take (i := 4) (v := ?_) rfl (by kernel_rfl) (by kernel_rfl) (by kernel_rfl) (by kernel_rfl) (fun _ _ _ h => h) rfl ?_ hSd ?_
            rotate_left
            · rintro w' ⟨h1, h2, h3⟩
              go_simp
              try with_reducible rfl
            simp only [Act.put]
            refine anyKeep.take (i := 5) (v := ?_) rfl (by kernel_rfl) (by kernel_rfl) (by kernel_rfl) (by kernel_rfl) (fun _ _ _ h => h) rfl ?_ hSd ?_
            rotate_left
            · rintro w' ⟨h1, h2, h3⟩
              go_simp
              try with_reducible rfl
            simp only [Act.put]
            refine anyKeep.take (i := 6) (v := ?_) rfl (by kernel_rfl) (by kernel_rfl) (by kernel_rfl) (by kernel_rfl) (fun _ _ _ h => h) rfl ?_ hSd ?_
            rotate_left
            · rintro w' ⟨h1, h2, h3⟩
              go_simp
              try with_reducible rfl
            simp only [Act.put]
            refine anyKeep.take (i := 7) (v := ?_) rfl (by kernel_rfl) (by kernel_rfl) (by kernel_rfl) (by kernel_rfl) (fun _ _ _ h => h) rfl ?_ hSd ?_
            rotate_left
            · rintro w' ⟨h1, h2, h3⟩
              go_simp
              try with_reducible rfl
            simp only [Act.put]
            refine anyKeep.take (i := 8) (v := ?_) rfl (by kernel_rfl) (by kernel_rfl) (by kernel_rfl) (by kernel_rfl) (fun _ _ _ h => h) rfl ?_ hSd ?_
            rotate_left
            · rintro w' ⟨h1, h2, h3⟩
              go_simp
              try with_reducible rfl
            simp only [Act.put]
            refine anyKeep.take (i := 9) (v := ?_) rfl (by kernel_rfl) (by kernel_rfl) (by kernel_rfl) (by kernel_rfl) (fun _ _ _ h => h) rfl ?_ hSd ?_
            rotate_left
            · rintro w' ⟨h1, h2, h3⟩
              go_simp
              try with_reducible rfl
            simp only [Act.put]
            refine anyKeep.take (i := 10) (v := ?_) rfl (by kernel_rfl) (by kernel_rfl) (by kernel_rfl) (by kernel_rfl) (fun _ _ _ h => h) rfl ?_ hSd ?_
            rotate_left
            · rintro w' ⟨h1, h2, h3⟩
              go_simp
              try with_reducible rfl
            simp only [Act.put]
            refine anyKeep.take (i := 11) (v := ?_) rfl (by kernel_rfl) (by kernel_rfl) (by kernel_rfl) (by kernel_rfl) (fun _ _ _ h => h) rfl ?_ hSd ?_
            rotate_left
            · rintro w' ⟨h1, h2, h3⟩
              go_simp
              try with_reducible rfl
            simp only [Act.put]
            refine anyKeep.take (i := 12) (v := ?_) rfl (by kernel_rfl) (by kernel_rfl) (by kernel_rfl) (by kernel_rfl) (fun _ _ _ h => h) rfl ?_ hSd ?_
            rotate_left
            · rintro w' ⟨h1, h2, h3⟩
              go_simp
              try with_reducible rfl
            simp only [Act.put]
            refine anyKeep.take (i := 13) (v := ?_) rfl (by kernel_rfl) (by kernel_rfl) (by kernel_rfl) (by kernel_rfl) (fun _ _ _ h => h) rfl ?_ hSd ?_
            rotate_left
            · rintro w' ⟨h1, h2, h3⟩
              go_simp
              try with_reducible rfl
            simp only [Act.put]
            refine anyKeep.one (k := 14) (by kernel_rfl) rfl (fun K hK => ?_)
            go_simp
            go_at_call 166
            refine (specBit _ _).mono ?_
            rintro e w5 ⟨rfl, rfl⟩
            refine hK _ _ (fun _ => hSd) ?_
            clear hK K
            try simp only [Act.put, List.setIfInBounds_toArray]
            refine anyKeep.take (i := 15) (v := ?_) rfl (by kernel_rfl) (by kernel_rfl) (by kernel_rfl) (by kernel_rfl) (fun _ _ _ h => h) rfl ?_ hSd ?_
            rotate_left
            · rintro w' ⟨h1, h2, h3⟩
              go_simp
              try with_reducible rfl
            simp only [Act.put, List.setIfInBounds_toArray]
            refine anyKeep.one (k := 16) (by kernel_rfl) rfl (fun K hK => ?_)
            go_simp
            refine hK _ _ (fun _ => hSof _ (HD.out.call ((Below.refl _ _).alloc (Nat.le_refl _) _))) ?_
            clear hK K
            try simp only [Act.put, List.setIfInBounds_toArray]
            refine anyKeep.one (k := 17) (by kernel_rfl) rfl (fun K hK => ?_)
            refine step_append_lies _ rfl (.tmp 46) (.tmp 61) 28 rfl (M) 3 i0 (.int .i64 0) 1 8 Tryz.underlying28 hi hz0 hz1 hz2 rfl (by decide) (.slice na n nca) n (intVals ((lessL zs c k).map (lowC c))) ?_ (HO.out.alloc _) ⟨wr.heap.size, 0, none⟩ 1 1 [.int .i64 lx] ?_ rfl ?_ ?_ (by omega) ?_ ?_ ?_ _ rfl ?_
            · simp [Act.eval]
            · simp [Act.eval]
            · exact oneCell_at (w := wr.drew) _
            · exact oneCell_int _
            · unfold maxLen; omega
            · omega
            · show M ≤ _
              simp
              omega
            intro g9 cap9 w9 hown9 hg9 hat9 hlt9
            have T9 : Turn (M) w9.heap.size _ w9 := Turn.of_grown hg9 (fun j hj => ⟨(HO.out.lt j hj).1, by have h2 : j < wr.heap.size := (HO.out.lt j hj).2; have h1 : wr.heap.size + 1 ≤ w9.heap.size := (by have := hg9.size; simpa using this); omega⟩)
            have D9 := (HD.out.call ((Below.refl _ _).alloc (Nat.le_refl _) _)).turn T9 (by omega)
            refine hK _ _ (fun _ => hSof _ D9) ?_
            clear hK K hSd
            have d9 := D9.out.c 1 _ rfl
            have pf9 := D9.out.f
            try simp only [Act.put, List.setIfInBounds_toArray]
            refine anyKeep.one (k := 18) (by kernel_rfl) rfl (fun K hK => ?_)
            go_simp
            refine hK _ _ (fun _ => hSof _ D9) ?_
            clear hK K hSof
            try simp only [Act.put, List.setIfInBounds_toArray, List.set_cons_zero, List.set_cons_succ]
            refine anyKeep.one (k := 19) (by kernel_rfl) rfl (fun K hK => ?_)
            go_simp
            refine hK _ _ (fun e => by simp at e) ?_
            clear hK K
            refine anyKeep.done (by kernel_rfl) ?_
            have hrel := D9.set1 (.slice (some ⟨g9, 0, none⟩) (n + 1) cap9)
            have hal := (Below.refl wr.drew.heap.size wr.drew).alloc (Nat.le_refl _) (.cells #[.int .i64 lx] 3)
            have V9 := (HV.out.below hal).turn T9 (.inl (Nat.le_refl _))
            have tq : Turn (w.heap.size + 2) (w.heap.size + 3) w9 (w9.setCell ⟨w.heap.size + 2, 1, none⟩ (.slice (some ⟨g9, 0, none⟩) (n + 1) cap9)) := Turn.of_grown (grown_cell (grown_self _ _)) (fun j hj => by have := Option.some.inj hj; omega)
            have hV10 := V9.turn tq (.inr (Nat.le_refl _))
            have hown10 : (w9.setCell ⟨w.heap.size + 2, 1, none⟩ (.slice (some ⟨g9, 0, none⟩) (n + 1) cap9)).ownsRow M 3 1 (.slice (some ⟨g9, 0, none⟩) (n + 1) cap9) (n + 1) (intVals ((lessL zs c (k + 1)).map (lowC c))) := by
              rw [HNX.out, intVals_snoc]
              exact ownsRow_setCell_below hown9 (a := ⟨w.heap.size + 2, 1, none⟩) (show w.heap.size + 2 < M by omega) _
            go_wp2
            go_roundw
            case rel => first | exact ⟨k + 1, n + 1, _, by omega, by go_num, hrel, hV10, HN1.out, hown10⟩ | ((repeat apply Exists.intro); exact ⟨⟨k + 1, n + 1, _, by omega, by go_num, hrel, hV10, HN1.out, hown10⟩, rfl⟩)
            case measure => simp [intOf]; omega
        · have hk' : k = zs.length := by omega
          subst hk'
          have hez : lessL zs c zs.length = zs.eraseIdx c := by unfold lessL; rw [List.take_length]
          rw [hez] at hn hown
          have hlz : (zs.eraseIdx c).length ≤ zs.length := List.length_eraseIdx_le _ _
          have x0 := hS.out.c 0 _ rfl
          have x1 := hS.out.c 1 _ rfl
          have r0 := hS.res.c 0 _ rfl
          have r1 := hS.res.c 1 _ rfl
          have rf := hS.res.f
          have hblw := hS.below
          have hMW := hV.1
          have HV := Lib.hid hV
          have HN := Lib.hid hown
          have HNN := Lib.hid hn
          clear hS hV hown hn hez o0
          go_wp2
          refine bodyPost_ret (v := heV va vs.length vca na n nca) (by simp [results, Tryz.results158, go_sem, r0, r1]) rfl ?_
          have tq : Turn (w.heap.size + 1) (w.heap.size + 2) wr ((wr.setCell ⟨w.heap.size + 1, 0, none⟩ (.slice va vs.length vca)).setCell ⟨w.heap.size + 1, 1, none⟩ (.slice na n nca)) :=
            Turn.of_grown (grown_cell (grown_cell (grown_self _ _))) (fun j hj => by have := Option.some.inj hj; omega)
          have ev : (intVals (vs.map (lowC c))).length = vs.length := by rw [intVals_length]; simp
          have en : (intVals ((zs.eraseIdx c).map (lowC c))).length = n := by rw [intVals_length, HNN.out]; simp
          refine ⟨va, vca, na, nca, by rw [List.length_map, List.length_map, HNN.out], ⟨?_, ?_, ?_⟩, tq.below hblw (by omega) hblw.size⟩
          · rw [ev]
            exact (HV.out.turn tq (.inr (by omega))).mono (by omega) (by simp; omega) (Nat.le_refl _)
          · rw [en]
            exact ((OwnIn.of HN.out).turn tq (.inr (by omega))).mono (by omega) (by simp) (Nat.le_refl _)
          · rw [ev, en]
            intro j h1 h2
            have := HV.out.2.2 j h1
            have := (HN.out.lt j h2).1
            omega
end Go.Proofs.YtpmmjaceehlpiaaGreatDoor
/-
  The model's action that frees a cell.
  The model's tests of a heap; what it does, for every kind of statement.
-/
namespace Go.Proofs.YtpmmjaceehlpiaaGreatDoor
open Go Go.RowKit Go.ChangeShapes Go.WideShapes Go.ChangeAt

theorem posFrom_count (n : Int) : ∀ (ns : List Int) (k : Nat), (posFrom n k ns).length = ns.count n
  | [], k => by simp [posFrom]
  | z :: zs, k => by
    rw [posFrom, List.count_cons]
    have := posFrom_count n zs (k + 1)
    by_cases h : z = n
    · rw [if_pos h, List.length_cons, this]
      simp [h]
    · rw [if_neg h, this]
      simp [h]
/-- Another variable holds the cell too. -/
theorem twice_iff {pa c : Nat} {vs : List Int} (hp : pa < vs.length) (h : vs[pa] = (c : Int)) : 1 < (posFrom (c : Int) 0 vs).length ↔ (c : Int) ∈ vs.set pa (-1) := by
  rw [posFrom_count, ← List.count_pos_iff, List.count_set hp, h]
  have h1 : ((-1 : Int) == (c : Int)) = false := by simp only [beq_eq_false_iff_ne, ne_eq]; omega
  simp only [h1, beq_self_eq_true, if_true, Bool.false_eq_true, if_false]
  omega

set_option maxRecDepth 100000 in
set_option maxHeartbeats 1600000 in
theorem specFree {lo hi pa : Nat} {a b : Option Addr} {ca cb : Nat} {vs zs : List Int} {w : World} (h : HeapIn lo hi w a ca b cb (intVals vs) (intVals zs)) (hp : pa < vs.length) (hv4 : vs.length ≤ 4) (hz6 : zs.length ≤ 6) (hgv : goodB zs vs = true) (hgz : goodB zs zs = true) (hn : vs.getD pa (-1) ≠ -1) :
    Calls Tryz.prog 137 #[heV a vs.length ca b zs.length cb, .int .i64 pa] w (Acted lo hi (blocksH a b vs.length ca zs.length cb) (freeS pa vs zs) w) := by
  rw [getD_cell hp] at hn
  obtain ⟨g, rfl, hg1, hg2⟩ := h.v.block_ (by rw [intVals_length]; omega)
  have hhi := h.v.1
  have n0 : ¬ w.heap.size = g := by omega
  have n1 : ¬ w.heap.size + 1 = g := by omega
  have hsrc := h.v.cellInt pa hp
  obtain ⟨c, hc, hcl⟩ := var_cell hp hgv hn
  rw [hc] at hsrc
  have HC := Lib.hid hc
  have htw := twice_iff hp hc
  clear hn hc
  obtain ⟨q, rfl, hq1, hq2⟩ := h.z.block_ (by rw [intVals_length]; omega)
  obtain ⟨W0, hW0, hb0, bn0, bp0⟩ := two_boxL w [.slice (some ⟨g, 0, none⟩) vs.length ca, .slice (some ⟨q, 0, none⟩) zs.length cb] [.slice none 0 0, .slice none 0 0] 30 30
  replace hW0 : ((w.alloc (.cells #[.slice (some ⟨g, 0, none⟩) vs.length ca, .slice (some ⟨q, 0, none⟩) zs.length cb] 30)).alloc (.cells #[.slice none 0 0, .slice none 0 0] 30)) = W0 := hW0
  have h0 := h.turn (lo' := hi) (hi' := hi) (Turn.of_below hb0) (.inl (Nat.le_refl _))
  have T0 := TurnB.of_below (lo := lo) (hi := hi) (S := blocksH (some ⟨g, 0, none⟩) (some ⟨q, 0, none⟩) vs.length ca zs.length cb) hb0
  have el : (vs.set pa (-1)).length = vs.length := List.length_set
  have k0 := bn0.c 0 _ rfl
  have k1 := bn0.c 1 _ rfl
  have hsrc0 := h0.v.cellInt pa hp
  rw [HC.out] at hsrc0
  have hgv' : goodB zs (vs.set pa (-1)) = true := by
    rw [goodB, List.all_eq_true]
    intro x hx
    rcases List.mem_or_eq_of_mem_set hx with hx | rfl
    · have := goodB_at hgv hx
      simpa using this
    · simp
  have hbv := good_range hz6 hgv'
  have hbz := good_range hz6 hgz
  have HBV := Lib.hid hbv
  have HBZ := Lib.hid hbz
  have hpl := posFrom_length (c : Int) vs 0
  clear h hgv' hgv hgz hbv hbz hsrc
  go_enter Tryz.func137, Tryz.ntmps137
  go_wp2_with fail
  clear hW0
  refine (specPositions (some ⟨g, 0, none⟩) ca vs (c : Int) W0 (by omega) h0.rows.v).mono ?_
  rintro e w1 ⟨ag, cg, rfl, hcg, hg, hb1⟩
  rw [intVals_length] at hcg ⊢
  clear hg
  have h1 := h0.turn (lo' := hi) (hi' := hi) (Turn.of_below (hb1.mono (by have := hb0.size; omega))) (.inl (Nat.le_refl _))
  have T1 := T0.trans (TurnB.of_below hb1)
  have bn1 := bn0.below hb1
  have bp1 := bp0.below hb1
  have k0 := bn1.c 0 _ rfl
  have k1 := bn1.c 1 _ rfl
  have r0 := bp1.c 0 _ rfl
  have r1 := bp1.c 1 _ rfl
  have rf := bp1.f
  have hs1 := bp1.lt
  clear bn0 bp0 h0 T0 hb0 hb1 hsrc0
  generalize (posFrom (c : Int) 0 vs).length = n at *
  by_cases hgt : 1 < n
  · have hgtI : (1 : Int) < (n : Int) := by omega
    have HR := Lib.hid (free_used (zs := zs) hp HC.out (.inl (htw.1 hgt)))
    clear htw hgt
    go_wp2
    refine bodyPost_ret (v := .tuple #[heV none 0 0 none 0 0, .int .i64 5]) (by simp [results, Tryz.results137, go_sem, r0, r1]) rfl ?_
    rw [HR.out]
    refine acted_bad ?_
    repeat (first | with_reducible exact T1 | refine TurnB.setNew ?_ (by omega))
  · have hgtI : ¬ (1 : Int) < (n : Int) := by omega
    obtain ⟨m2, hm2⟩ : ∃ m2, decide ((c : Int) ∈ zs) = m2 := ⟨_, rfl⟩
    have HM2 := Lib.hid hm2
    have HM1 := Lib.hid (mt htw.2 hgt)
    clear hm2 htw hgt
    go_wp2_with fail
    refine (specHas (some ⟨q, 0, none⟩) cb zs (c : Int) _ (by omega) h1.rows.z).mono ?_
    rw [HM2.out]
    rintro e w2 ⟨rfl, hb2⟩
    have h2 := h1.turn (lo' := hi) (hi' := hi) (Turn.of_below (hb2.mono (by omega))) (.inl (Nat.le_refl _))
    have T2 := T1.trans (TurnB.of_below hb2)
    have bn2 := bn1.below hb2
    have bp2 := bp1.below hb2
    clear k0 k1 r0 r1 rf hs1 h1 T1 bn1 bp1 hb2
    have k0 := bn2.c 0 _ rfl
    have k1 := bn2.c 1 _ rfl
    have r0 := bp2.c 0 _ rfl
    have r1 := bp2.c 1 _ rfl
    have rf := bp2.f
    have hs2 := bp2.lt
    cases m2
    case' true =>
      have HR := Lib.hid (free_used hp HC.out (.inr (of_decide_eq_true HM2.out)))
      go_wp2
      refine bodyPost_ret (v := .tuple #[heV none 0 0 none 0 0, .int .i64 5]) (by simp [results, Tryz.results137, go_sem, r0, r1]) rfl ?_
      rw [HR.out]
      refine acted_bad ?_
      repeat (first | with_reducible exact T2 | refine TurnB.setNew ?_ (by omega))
    case' false =>
      have HR := Lib.hid (free_ok hp HC.out (fun hh => hh.elim HM1.out (of_decide_eq_false HM2.out)))
      have hold := h2.v.cellInt pa hp
      have hfr := h2.v.frozen_ pa
      have h3 := h2.setV (k := pa) (-1)
      have T3 := T2.trans (turnB_at (k := pa) (.int .i64 (-1)) hg1 hg2 (.inl rfl))
      have bn3 := bn2.turnB (turnB_at (w := w2) (k := pa) (S := fun k => k = g) (.int .i64 (-1)) hg1 hg2 rfl) n0
      have bp3 := bp2.turnB (turnB_at (w := w2) (k := pa) (S := fun k => k = g) (.int .i64 (-1)) hg1 hg2 rfl) n1
      go_wp2_with fail
      have hwo := specWithout c (some ⟨g, 0, none⟩) (some ⟨q, 0, none⟩) ca cb (vs.set pa (-1)) zs (w2.setCell ⟨g, pa, none⟩ (.int .i64 (-1))) (by omega) hz6 hcl HBV.out HBZ.out h3.rows
      rw [el] at hwo
      refine hwo.mono ?_
      rintro e w3 ⟨xa, xca, xb, xcb, rfl, h4, hb4⟩
      have hs3 : (w2.setCell ⟨g, pa, none⟩ (.int .i64 (-1))).heap.size = w2.heap.size := by simp
      have bp4 := bp3.below hb4
      have T4 := T3.trans (TurnB.of_below hb4)
      rw [hs3] at h4
      have hbl := h4.blocks
      clear hwo r0 r1 rf k0 k1 bp2 bn2 bp3 bn3 h3 T3 hs3 hb4
      have q0 := bp4.c 0 _ rfl
      have q1 := bp4.c 1 _ rfl
      have qf := bp4.f
      have h4' := h4.mono (lo' := lo) (by omega) (Nat.le_refl _) (Nat.le_refl _)
      have hne : ∀ k, blocksH xa xb ((vs.set pa (-1)).map (lowC c)).length xca ((zs.eraseIdx c).map (lowC c)).length xcb k → k ≠ w.heap.size + 1 := fun k hk => by have := hbl k hk; omega
      have hX := (h4'.setNot (Q := w.heap.size + 1) (i := 0) (u := .slice xa ((vs.set pa (-1)).map (lowC c)).length xca) hne).setNot (Q := w.heap.size + 1) (i := 1) (u := .slice xb ((zs.eraseIdx c).map (lowC c)).length xcb) hne
      have HX := Lib.hid hX
      have T5 := (T4.setNew (Q := w.heap.size + 1) (i := 0) (u := .slice xa ((vs.set pa (-1)).map (lowC c)).length xca) (by omega)).setNew (Q := w.heap.size + 1) (i := 1) (u := .slice xb ((zs.eraseIdx c).map (lowC c)).length xcb) (by omega)
      clear hX hne h4' h4
      generalize hvv : (vs.set pa (-1)).map (lowC c) = us at *
      generalize hzz : (zs.eraseIdx c).map (lowC c) = ys at *
      clear hvv hzz
      go_wp2
      refine bodyPost_ret (v := .tuple #[heV xa us.length xca xb ys.length xcb, .int .i64 0]) (by simp [results, Tryz.results137, go_sem, q0, q1]) rfl ?_
      rw [HR.out]
      exact acted_of rfl rfl (by simpa using HX.out) T5 (fun k hk => .inr (by have := hbl k (blocksH_any hk); omega))

set_option maxRecDepth 100000 in
set_option maxHeartbeats 1600000 in
theorem specDo_8 {lo hi pa pb : Nat} {a b : Option Addr} {ca cb : Nat} {vs zs : List Int} (sa sb : ByteArray) {w : World} (h : HeapIn lo hi w a ca b cb (intVals vs) (intVals zs)) (hp : pa < vs.length) (hv4 : vs.length ≤ 4) (hz6 : zs.length ≤ 6) (hgv : goodB zs vs = true) (hgz : goodB zs zs = true) (hn : vs.getD pa (-1) ≠ -1) :
    Calls Tryz.prog 108 #[stV 8 sa sb, heV a vs.length ca b zs.length cb, .int .i64 pa, .int .i64 pb] w (Acted lo hi (blocksH a b vs.length ca zs.length cb) (freeS pa vs zs) w) := by
  have hhi := h.v.1
  have hbo := h.blocks
  obtain ⟨W0, hW0, hb0, bs0, bn0, bp0⟩ := three_boxL w [.int .i64 8, .string sa, .string sb] [.slice a vs.length ca, .slice b zs.length cb] [.slice none 0 0, .slice none 0 0] 83 30 30
  replace hW0 : (((w.alloc (.cells #[.int .i64 8, .string sa, .string sb] 83)).alloc (.cells #[.slice a vs.length ca, .slice b zs.length cb] 30)).alloc (.cells #[.slice none 0 0, .slice none 0 0] 30)) = W0 := hW0
  have h0 := h.turn (lo' := hi) (hi' := hi) (Turn.of_below hb0) (.inl (Nat.le_refl _))
  have T0 := TurnB.of_below (lo := lo) (hi := hi) (S := blocksH a b vs.length ca zs.length cb) hb0
  have s0 := bs0.c 0 _ rfl
  have k0 := bn0.c 0 _ rfl
  have k1 := bn0.c 1 _ rfl
  have hl0 := bp0.lt
  clear h
  go_enter Tryz.func108, Tryz.ntmps108
  go_wp2_with fail
  clear hW0
  refine (specFree h0 hp hv4 hz6 hgv hgz hn).mono ?_
  rintro e w1 ⟨xa, xca, xb, xcb, rfl, h1, t1, hbl⟩
  obtain ⟨c9, us, ys, hr9⟩ : ∃ (c9 : Int) (us ys : List Int), freeS pa vs zs = (c9, us, ys) := ⟨_, _, _, rfl⟩
  rw [hr9] at h1 hbl ⊢
  try rw [hr9]
  simp only at h1 hbl
  have HR := Lib.hid hr9
  have hne : ∀ k, blocksH xa xb us.length xca ys.length xcb k → k ≠ w.heap.size + 2 := fun k hk e => by
    rcases hbl k hk with q | q
    · have := hbo _ q
      omega
    · omega
  have bp1 := bp0.turn t1.t (.inr (by omega))
  have bs1 := t1.size
  have T1 := T0.trans t1
  clear hr9 h0 T0 t1 bp0 bn0 bs0 s0 k0 k1 hbo hb0
  have r0 := bp1.c 0 _ rfl
  have r1 := bp1.c 1 _ rfl
  have rf := bp1.f
  have hl1 := bp1.lt
  have hl2 : w.heap.size + 1 + 1 < w1.heap.size + 1 := by omega
  have hl3 : ¬ w1.heap.size = w.heap.size + 1 + 1 := by omega
  have hX := (h1.setNot (Q := w.heap.size + 1 + 1) (i := 0) (u := .slice xa us.length xca) hne).setNot (Q := w.heap.size + 1 + 1) (i := 1) (u := .slice xb ys.length xcb) hne
  have hal := (Below.refl ((w1.setCell ⟨w.heap.size + 1 + 1, 0, none⟩ (.slice xa us.length xca)).setCell ⟨w.heap.size + 1 + 1, 1, none⟩ (.slice xb ys.length xcb)).heap.size ((w1.setCell ⟨w.heap.size + 1 + 1, 0, none⟩ (.slice xa us.length xca)).setCell ⟨w.heap.size + 1 + 1, 1, none⟩ (.slice xb ys.length xcb))).alloc (Nat.le_refl _) (.cells #[.slice xa us.length xca, .slice xb ys.length xcb] 30)
  have HX := Lib.hid ((hX.below hal).mono (Nat.le_refl _) (by simp) (Nat.le_refl _))
  have T2 := ((T1.setNew (Q := w.heap.size + 1 + 1) (i := 0) (u := .slice xa us.length xca) (by omega)).setNew (Q := w.heap.size + 1 + 1) (i := 1) (u := .slice xb ys.length xcb) (by omega)).trans (TurnB.of_below hal)
  have HT := Lib.hid T2
  have HB := Lib.hid (((bp1.set 0 (.slice xa us.length xca)).set 1 (.slice xb ys.length xcb)).below hal)
  clear hX hal h1 T1 T2
  go_wp2
  have e0 := HB.out.c 0 _ rfl
  have e1 := HB.out.c 1 _ rfl
  refine bodyPost_ret (v := .tuple #[heV xa us.length xca xb ys.length xcb, .int .i64 c9]) (by clear r0 r1; simp [results, Tryz.results108, go_sem, e0, e1]) rfl ?_
  rw [HR.out]
  exact ⟨xa, xca, xb, xcb, rfl, HX.out, HT.out, fun k hk => (hbl k hk).imp id fun q => by omega⟩
end Go.Proofs.YtpmmjaceehlpiaaGreatDoor

namespace Go.Proofs.YtpmmjaceehlpiaaGreatDoor
open Go Go.RowKit Go.ChangeShapes Go.WideShapes Go.ChangeAt

theorem specMax (x : Int) (w : World) : Calls Tryz.prog 103 #[.int .i64 0, .int .i64 x] w fun e w' => e = .returned (.int .i64 (x.toNat : Int)) ∧ w = w' := by
  by_cases h : 0 > x
  · have e : (x.toNat : Int) = 0 := by omega
    rw [e]
    go_enter Tryz.func103, Tryz.ntmps103
    go_wp2
    go_ret
    exact ⟨rfl, rfl⟩
  · have e : (x.toNat : Int) = x := by omega
    rw [e]
    go_enter Tryz.func103, Tryz.ntmps103
    go_wp2
    go_ret
    exact ⟨rfl, rfl⟩
/-- Whether a test holds for two cells. -/
def testB (k x y : Int) : Bool := if k = 9 then decide (x = -1) else if k = 10 then !decide (x = -1) else if k = 11 then decide (x = y) else !decide (x = y)
theorem specTest (k x y : Int) (w : World) : Calls Tryz.prog 106 #[.int .i64 k, .int .i64 x, .int .i64 y] w fun e w' => e = .returned (.bool (testB k x y)) ∧ w = w' := by
  by_cases h9 : k = 9
  · subst h9
    go_enter Tryz.func106, Tryz.ntmps106
    go_wp2
    go_ret
    exact ⟨by simp only [testB, reduceIte, Int.reduceEq]; rfl, rfl⟩
  · have b9 : (k == 9) = false := by simpa using h9
    by_cases h10 : k = 10
    · subst h10
      go_enter Tryz.func106, Tryz.ntmps106
      go_wp2
      go_ret
      exact ⟨by simp only [testB, reduceIte, Int.reduceEq]; rfl, rfl⟩
    · have b10 : (k == 10) = false := by simpa using h10
      by_cases h11 : k = 11
      · subst h11
        go_enter Tryz.func106, Tryz.ntmps106
        go_wp2
        go_ret
        exact ⟨by simp only [testB, reduceIte, Int.reduceEq]; rfl, rfl⟩
      · have b11 : (k == 11) = false := by simpa using h11
        have hR : testB k x y = !decide (x = y) := by simp [testB, h9, h10, h11]
        have HR := Lib.hid hR
        clear hR h9 h10 h11
        go_enter Tryz.func106, Tryz.ntmps106
        go_wp2
        go_ret
        exact ⟨by rw [HR.out]; rfl, rfl⟩
/-- Whether a statement follows a null pointer. -/
def nullB (k x y : Int) : Bool := if k = 5 then decide (y = -1) else if k = 6 ∨ k = 7 ∨ k = 8 then decide (x = -1) else false
theorem specNull {pa pb : Nat} {a b : Option Addr} {ca cb : Nat} {vs zs : List Int} (k : Int) (sa sb : ByteArray) {w : World} (h : HeapAt w a b vs zs) (hp : pa < vs.length) (hq : pb < vs.length) :
    Calls Tryz.prog 107 #[stV k sa sb, heV a vs.length ca b zs.length cb, .int .i64 pa, .int .i64 pb] w (GaveX (.bool (nullB k (vs.getD pa (-1)) (vs.getD pb (-1)))) w) := by
  rw [getD_cell hp, getD_cell hq]
  obtain ⟨g, o, rfl, hg, hc⟩ := h.v pa _ (intVals_at vs pa hp)
  obtain ⟨g', o', e, hg', hc'⟩ := h.v pb _ (intVals_at vs pb hq)
  obtain ⟨rfl, rfl⟩ : g = g' ∧ o = o' := by
    injection e with e
    injection e with e1 e2
    exact ⟨e1, e2⟩
  have n0 : ¬ w.heap.size = g := by omega
  have n1 : ¬ w.heap.size + 1 = g := by omega
  clear e hg'
  have hB : Below w.heap.size w ((w.alloc (.cells #[.int .i64 k, .string sa, .string sb] 83)).alloc (.cells #[.slice (some ⟨g, o, none⟩) vs.length ca, .slice b zs.length cb] 30)) := two_below w _ _
  have HB := Lib.hid hB
  clear hB
  generalize vs[pa] = x at *
  generalize vs[pb] = y at *
  by_cases h5 : k = 5
  · subst h5
    go_enter Tryz.func107, Tryz.ntmps107
    go_wp2
    go_ret
    exact ⟨by simp only [nullB, reduceIte, Int.reduceEq, or_false]; rfl, HB.out⟩
  · have b5 : (k == 5) = false := by simpa using h5
    by_cases h6 : k = 6
    · subst h6
      go_enter Tryz.func107, Tryz.ntmps107
      go_wp2
      go_ret
      exact ⟨by simp only [nullB, reduceIte, Int.reduceEq, or_false]; rfl, HB.out⟩
    · have b6 : (k == 6) = false := by simpa using h6
      by_cases h7 : k = 7
      · subst h7
        go_enter Tryz.func107, Tryz.ntmps107
        go_wp2
        go_ret
        exact ⟨by simp only [nullB, reduceIte, Int.reduceEq, or_true, or_false]; rfl, HB.out⟩
      · have b7 : (k == 7) = false := by simpa using h7
        by_cases h8 : k = 8
        · subst h8
          go_enter Tryz.func107, Tryz.ntmps107
          go_wp2
          go_ret
          exact ⟨by simp only [nullB, reduceIte, Int.reduceEq, or_true]; rfl, HB.out⟩
        · have b8 : (k == 8) = false := by simpa using h8
          have hR : nullB k x y = false := by simp [nullB, h5, h6, h7, h8]
          have HR := Lib.hid hR
          clear hR h5 h6 h7 h8
          go_enter Tryz.func107, Tryz.ntmps107
          go_wp2
          go_ret
          exact ⟨by rw [HR.out]; rfl, HB.out⟩

theorem do_blocked {k : Int} {pa pb : Nat} {vs zs : List Int} (h1 : isTestS k = true) (h : testB k (vs.getD pa (-1)) (vs.getD pb (-1)) = false) : doS k pa pb vs zs = badC 1 := by
  rcases isTestS_four h1 with rfl | rfl | rfl | rfl
  all_goals
    unfold testB at h
    unfold doS
    simp at h
    simp [h]
theorem do_passed {k : Int} {pa pb : Nat} {vs zs : List Int} (h1 : isTestS k = true) (h : testB k (vs.getD pa (-1)) (vs.getD pb (-1)) = true) : doS k pa pb vs zs = (0, vs, zs) := by
  rcases isTestS_four h1 with rfl | rfl | rfl | rfl
  all_goals
    unfold testB at h
    unfold doS
    simp at h
    simp [h]
theorem do_null {k : Int} {pa pb : Nat} {vs zs : List Int} (h : nullB k (vs.getD pa (-1)) (vs.getD pb (-1)) = true) : doS k pa pb vs zs = badC 2 := by
  unfold nullB at h
  by_cases h5 : k = 5
  · subst h5
    simp at h
    unfold doS
    simp [h]
  · rw [if_neg h5] at h
    by_cases h6 : k = 6 ∨ k = 7 ∨ k = 8
    · rw [if_pos h6] at h
      rcases h6 with rfl | rfl | rfl
      all_goals
        simp at h
        unfold doS
        simp [h, linkS, freeS]
    · rw [if_neg h6] at h
      cases h
theorem do_full {pa pb : Nat} {vs zs : List Int} (h : zs.length = 6) : doS 3 pa pb vs zs = badC 6 := by
  unfold doS
  simp [h]

theorem specDo {lo hi pa pb : Nat} {a b : Option Addr} {ca cb : Nat} {vs zs : List Int} {k : Int} (sa sb : ByteArray) {w : World} (h : HeapIn lo hi w a ca b cb (intVals vs) (intVals zs)) (hp : pa < vs.length) (hq : pb < vs.length) (hv4 : vs.length ≤ 4) (hz6 : zs.length ≤ 6) (hgv : goodB zs vs = true) (hgz : goodB zs zs = true)
    (hk : 1 ≤ k ∧ k ≤ 12) (hb : isTestS k = true → testB k (vs.getD pa (-1)) (vs.getD pb (-1)) = true) (hn : nullB k (vs.getD pa (-1)) (vs.getD pb (-1)) = false) (hf : k = 3 → zs.length ≠ 6) :
    Calls Tryz.prog 108 #[stV k sa sb, heV a vs.length ca b zs.length cb, .int .i64 pa, .int .i64 pb] w (Acted lo hi (blocksH a b vs.length ca zs.length cb) (doS k pa pb vs zs) w) := by
  cases hT : isTestS k with
  | true =>
    rw [do_passed hT (hb hT)]
    exact specDo_skip sa sb h hp hq (.inr (isTestS_true.1 hT))
  | false =>
    have hT' : ¬ (9 ≤ k ∧ k ≤ 12) := fun e => by rw [isTestS_true.2 e] at hT; cases hT
    have : k = 1 ∨ k = 2 ∨ k = 3 ∨ k = 4 ∨ k = 5 ∨ k = 6 ∨ k = 7 ∨ k = 8 := by omega
    rcases this with rfl | rfl | rfl | rfl | rfl | rfl | rfl | rfl
    · exact specDo_skip sa sb h hp hq (.inl rfl)
    · exact specDo_2 sa sb h hp hq
    · rw [show doS 3 pa pb vs zs = (0, vs.set pa (zs.length : Int), zs ++ [-1]) by unfold doS; simp [hf rfl]]
      exact specDo_3 sa sb h hp hq hz6
    · exact specDo_4 sa sb h hp hq
    · have hn' : vs.getD pb (-1) ≠ -1 := by simpa [nullB] using hn
      rw [show doS 5 pa pb vs zs = (0, vs.set pa (nextC zs (vs.getD pb (-1))), zs) from (by unfold doS; rw [if_neg (by decide), if_neg (by decide), if_neg (by decide), if_neg (by decide), if_pos rfl, if_neg hn'])]
      exact specDo_5 sa sb h hp hq hgv hn'
    · have hn' : vs.getD pa (-1) ≠ -1 := by simpa [nullB] using hn
      rw [show doS 6 pa pb vs zs = (0, vs, zs.set (vs.getD pa (-1)).toNat (-1)) from (by unfold doS; rw [if_neg (by decide), if_neg (by decide), if_neg (by decide), if_neg (by decide), if_neg (by decide), if_pos rfl, if_neg hn'])]
      exact specDo_6 sa sb h hp hq hgv hn'
    · exact specDo_7 sa sb h hp hq hgv hz6 (by simpa [nullB] using hn)
    · exact specDo_8 sa sb h hp hv4 hz6 hgv hgz (by simpa [nullB] using hn)
end Go.Proofs.YtpmmjaceehlpiaaGreatDoor
