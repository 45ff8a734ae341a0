/-
  The program's action that makes a cell.
-/
import Derived.Test.YtcgkaefacdblnaaDoorImplActs
import Derived.Test.YtcgkaefacdblnaaDoorImplCanon
import Derived.Maps.AppendAt
namespace Go.Proofs.YtcgkaefacdblnaaDoor
open Go Go.RowKit Go.ChangeShapes Go.WideShapes Go.ChangeAt

/-- A row of a heap grew by one cell, perhaps in a new block. -/
theorem HeapIn.pushZ {lo hi B : Nat} {S : Nat → Prop} {W W' : World} {a b : Option Addr} {ca cb : Nat} {vs zs : List Int} {b' : Option Addr} {cb' : Nat} {x : Int} (h : HeapIn lo hi W a ca b cb (intVals vs) (intVals zs))
    (ho : W'.ownsRow lo 3 1 (.slice b' (zs.length + 1) cb') (zs.length + 1) (intVals (zs ++ [x]))) (hg : W.grownBy W' (Value.slice b zs.length cb).ownBlock) (hl : (Value.slice b' (zs.length + 1) cb').ownBlock = (Value.slice b zs.length cb).ownBlock ∨ ∃ k, (Value.slice b' (zs.length + 1) cb').ownBlock = some k ∧ B ≤ k) (hB : hi ≤ B) (hS : ∀ k, blocksH a b vs.length ca zs.length cb k → S k) :
    HeapIn lo W'.heap.size W' a ca b' cb' (intVals vs) (intVals (zs ++ [x])) ∧ TurnB lo hi S W W' ∧ ∀ k, blocksH a b' vs.length ca (zs ++ [x]).length cb' k → (S k ∧ k < hi) ∨ B ≤ k := by
  have el : (intVals (zs ++ [x])).length = zs.length + 1 := by rw [intVals_length]; simp
  have hv := h.v
  have hz := h.z
  have hap := h.apart
  rw [intVals_length] at hv hz hap
  rw [intVals_length] at hap
  have hv' := own_other hv.2.1 hg (fun k hk e => hap k hk e.symm)
  refine ⟨⟨?_, ?_, ?_⟩, TurnB.of_grown hg fun k hk => ⟨(hz.2.1.lt k hk).1, hz.2.2 k hk, hS k (.inr hk)⟩, fun k hk => ?_⟩
  · rw [intVals_length]
    exact ⟨Nat.le_refl _, hv', fun k hk => Nat.lt_of_lt_of_le (hv.2.2 k hk) (Nat.le_trans hv.1 hg.size)⟩
  · rw [el]
    exact OwnIn.of ho
  · rw [el, intVals_length]
    intro j hj1 hj2
    rcases hl with e | ⟨k, e, hk⟩
    · exact hap j hj1 (e ▸ hj2)
    · have h1 := hv.2.2 j hj1
      rw [e] at hj2
      have := Option.some.inj hj2
      omega
  · rcases hk with e | e
    · exact .inl ⟨hS k (.inl e), hv.2.2 k e⟩
    · rw [List.length_append, List.length_singleton] at e
      rcases hl with q | ⟨j, q, hj⟩
      · exact .inl ⟨hS k (.inr (q ▸ e)), hz.2.2 k (q ▸ e)⟩
      · rw [q] at e
        obtain rfl := Option.some.inj e
        exact .inr hj

set_option maxRecDepth 100000 in
set_option maxHeartbeats 1600000 in
theorem implDoNew {lo hi pa : Nat} {a b : Option Addr} {ca cb : Nat} {vs zs : List Int} (y : Int) {w : World} (h : HeapIn lo hi w a ca b cb (intVals vs) (intVals zs)) (hp : pa < vs.length) (hz6 : zs.length ≤ 6) :
    Calls Tryd.prog 74 #[heV a vs.length ca b zs.length cb, .int .i64 pa, .int .i64 y] w (Acted lo hi (blocksH a b vs.length ca zs.length cb) (if zs.length = 6 then badC 6 else (0, vs.set pa (zs.length : Int), zs ++ [-1])) w) := by
  obtain ⟨i0, hi0, hz0, hz1, hz2⟩ := info_parts intInfoH
  by_cases h6 : zs.length = 6
  · rw [if_pos h6]
    have h6i : ((zs.length : Int) == 6) = true := by simp only [beq_iff_eq]; omega
    clear h6 hz6
    go_enter Tryd.func74, Tryd.ntmps74
    go_wp2
    refine bodyPost_ret (v := .tuple #[heV none 0 0 none 0 0, .int .i64 6]) (by simp [results, Tryd.results74, go_sem]) rfl ?_
    refine acted_bad (TurnB.of_below ?_)
    repeat (first | with_reducible exact Below.refl _ _ | refine Below.drew ?_ | refine Below.alloc ?_ (by simp <;> omega) _ | refine Below.setCell ?_ (by simp <;> omega) _)
  · rw [if_neg h6]
    have h6i : ((zs.length : Int) == 6) = false := by simp only [beq_eq_false_iff_ne, ne_eq]; omega
    obtain ⟨g, rfl, hg1, hg2⟩ := h.v.block_ (by rw [intVals_length]; omega)
    have hhi := h.v.1
    have n0 : ¬ w.heap.size = g := by omega
    have n1 : ¬ w.heap.size + 1 = g := by omega
    have n2 : g < w.heap.size := by omega
    have n3 : g < w.heap.size + 1 := by omega
    have hold := h.v.cellInt pa hp
    have hfr := h.v.frozen_ pa
    have h1 := h.setV (k := pa) (zs.length : Int)
    have t1 : TurnB lo hi (blocksH (some ⟨g, 0, none⟩) b vs.length ca zs.length cb) w (w.setCell ⟨g, pa, none⟩ (.int .i64 (zs.length : Int))) := turnB_at _ hg1 hg2 (.inl rfl)
    obtain ⟨W0, hW0, hb0, bn0, bp0⟩ := two_boxL (w.setCell ⟨g, pa, none⟩ (.int .i64 (zs.length : Int))) [.slice (some ⟨g, 0, none⟩) vs.length ca, .slice b zs.length cb] [.slice none 0 0, .slice none 0 0] 29 29
    replace hW0 : ((w.setCell ⟨g, pa, none⟩ (.int .i64 (zs.length : Int))).alloc (.cells #[.slice (some ⟨g, 0, none⟩) vs.length ca, .slice b zs.length cb] 29)).alloc (.cells #[.slice none 0 0, .slice none 0 0] 29) = W0 := hW0
    have hs0 : (w.setCell ⟨g, pa, none⟩ (.int .i64 (zs.length : Int))).heap.size = w.heap.size := by simp
    rw [hs0] at bn0 bp0
    have h0 := h1.below hb0
    have T0 := t1.trans (TurnB.of_below hb0)
    have hown0 := h0.z.2.1
    rw [intVals_length] at hown0
    have hlow : lo ≤ W0.heap.size := by have := bp0.lt; omega
    have hal := (Below.refl W0.heap.size W0).alloc (Nat.le_refl _) (.cells #[.int .i64 (-1)] 3)
    have h0a := h0.below hal
    have bn0a := bn0.below hal
    have bp0a := bp0.below hal
    have T0a := T0.trans (TurnB.of_below hal)
    have hbig : w.heap.size + 1 < W0.heap.size := bp0.lt
    have hown0a := h0a.z.2.1
    rw [intVals_length] at hown0a
    have hzlt := h0a.z.2.2
    rw [intVals_length] at hzlt
    have k0 := bn0.c 0 _ rfl
    have k1 := bn0.c 1 _ rfl
    clear h1 t1 h bn0 bp0 hb0 T0 h0 hown0
    go_enter Tryd.func74, Tryd.ntmps74
    go_wp2_with (first
      | (at_builtin; (try rw [hW0]); refine wpList_append_own_at _ rfl (.tmp 21) (.tmp 22) 27 rfl lo 3 i0 (.int .i64 0) 1 8 Tryd.underlying27 hi0 hz0 hz1 hz2 rfl (by decide) _ zs.length _ rfl hown0a ⟨W0.heap.size, 0, none⟩ 1 1 [.int .i64 (-1)] rfl rfl (oneCell_at _) (oneCell_int _) (by unfold maxLen; omega) (by omega) (by simp; omega) ?_; intro v5 w5 hown5 hg5 _ hloc; obtain ⟨va5, vc5, rfl, _⟩ := own_shape hown5; obtain ⟨h5, t5, hbl⟩ := h0a.pushZ (S := blocksH (some ⟨g, 0, none⟩) b vs.length ca zs.length cb) (B := W0.heap.size) (x := -1) (by rw [intVals_snoc]; exact hown5) hg5 (hloc.imp id fun e => Exists.intro _ (And.intro e (by simp))) (by omega) (fun k hk => blocksH_any hk); have bn5 := bn0a.turn t5.t (.inr (by omega)); have bp5 := bp0a.turn t5.t (.inr (by omega)); have d0 := bn5.c 0 _ rfl; have d1 := bn5.c 1 _ rfl; have df := bn5.f; have e0 := bp5.c 0 _ rfl; have e1 := bp5.c 1 _ rfl; have ef := bp5.f; have hs5 := bp5.lt; clear bn5 bp5 bn0a bp0a hown5 hg5 hloc h0a hown0a hzlt)
      | fail)
    refine bodyPost_ret (v := .tuple #[heV (some ⟨g, 0, none⟩) vs.length ca va5 (zs.length + 1) vc5, .int .i64 0]) (by simp [results, Tryd.results74, go_sem, e0, e1]) rfl ?_
    refine acted_of List.length_set (by simp) ?_ ?_ (fun k hk => (hbl k hk).imp (fun hh => hh.1) (fun hh => by omega))
    · have hs : (((w5.setCell ⟨w.heap.size, 1, none⟩ (.slice va5 (zs.length + 1) vc5)).setCell ⟨w.heap.size + 1, 0, none⟩ (.slice (some ⟨g, 0, none⟩) vs.length ca)).setCell ⟨w.heap.size + 1, 1, none⟩ (.slice va5 (zs.length + 1) vc5)).heap.size = w5.heap.size := by simp
      rw [hs]
      exact ((h5.setNot fun k hk => by have := hbl k hk; omega).setNot fun k hk => by have := hbl k hk; omega).setNot fun k hk => by have := hbl k hk; omega
    · repeat (first | with_reducible exact T0a.trans t5 | refine TurnB.setNew ?_ (by omega))
end Go.Proofs.YtcgkaefacdblnaaDoor
