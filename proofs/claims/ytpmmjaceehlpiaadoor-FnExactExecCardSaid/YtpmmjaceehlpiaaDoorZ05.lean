/-
  Several texts of one proof in one file, in the order in which they build.
-/
import Derived.Deep.RegionHeld3
import Derived.Maps.AppendAt
import Derived.Handy
import Derived.Test.YtpmmjaceehlpiaaDoorZ02
import Derived.Test.YtpmmjaceehlpiaaDoorZ01
import Derived.Test.YtpmmjaceehlpiaaDoorZ03
/-
  The program's copy of a heap.
-/
namespace Go.Proofs.YtpmmjaceehlpiaaDoor
open Go Go.RowKit

theorem heapIn_pair {lo b3 b4 : Nat} {W : World} {oa ob : Option Addr} {oca ocb : Nat} {vs zs : List Int} (h3 : W.ownsRow b3 3 1 (.slice oa vs.length oca) vs.length (intVals vs)) (h4 : W.ownsRow b4 3 1 (.slice ob zs.length ocb) zs.length (intVals zs)) (l3 : lo ≤ b3) (l4 : lo ≤ b4)
    (ha : ∀ j, (Value.slice oa vs.length oca).ownBlock = some j → (Value.slice ob zs.length ocb).ownBlock ≠ some j) : HeapIn lo W.heap.size W oa oca ob ocb (intVals vs) (intVals zs) :=
  ⟨by rw [intVals_length]; exact (OwnIn.of h3).mono l3 (Nat.le_refl _) (Nat.le_refl _), by rw [intVals_length]; exact (OwnIn.of h4).mono l4 (Nat.le_refl _) (Nat.le_refl _), by rw [intVals_length, intVals_length]; exact ha⟩
set_option maxHeartbeats 1600000 in
set_option maxRecDepth 100000 in
theorem implCopy (a b : Option Addr) (ca cb : Nat) (vs zs : List Int) (w : World) (hl : vs.length ≤ 1048576) (he : zs.length ≤ 1048576) (hr : HeapAt w a b vs zs) :
    Calls Tryd.prog 38 #[heV a vs.length ca b zs.length cb] w (MadeHeap vs zs w) := by
  go_enter Tryd.func38, Tryd.ntmps38
  go_wp2_with fail
  obtain ⟨W0, hW0, hb0, hA0, hA1⟩ := two_boxL w [.slice a vs.length ca, .slice b zs.length cb] [.slice none 0 0, .slice none 0 0] 29 29
  simp only [List.toArray] at hW0
  rw [hW0]
  clear hW0
  have hz0 := hA1.lt
  have hA : ∀ W, Below W0.heap.size W0 W → (W.cell? ⟨w.heap.size, 0, none⟩ = some (.slice a vs.length ca) ∧ W.cell? ⟨w.heap.size, 1, none⟩ = some (.slice b zs.length cb)) ∧ HeapAt W a b vs zs ∧ BoxL W (w.heap.size + 1) [.slice none 0 0, .slice none 0 0] := fun W hb =>
    have h0 := hA0.below hb
    ⟨⟨h0.c 0 _ rfl, h0.c 1 _ rfl⟩, hr.below (hb0.trans (hb.mono hb0.size)) (Nat.le_refl _), hA1.below hb⟩
  have hS : ∀ W, Below (w.heap.size + 1) W0 W → W.cell? ⟨w.heap.size, 0, none⟩ = some (.slice a vs.length ca) ∧ W.cell? ⟨w.heap.size, 1, none⟩ = some (.slice b zs.length cb) := fun W h =>
    ⟨(h.cell (p := ⟨w.heap.size, 0, none⟩) (by show w.heap.size < _; omega)).trans (hA0.c 0 _ rfl), (h.cell (p := ⟨w.heap.size, 1, none⟩) (by show w.heap.size < _; omega)).trans (hA0.c 1 _ rfl)⟩
  have HA := Lib.hid hA
  have HS := Lib.hid hS
  clear hA hS hA0 hA1 hr
  go_region_held3 (fun W => W.cell? ⟨w.heap.size, 0, none⟩ = some (.slice a vs.length ca) ∧ W.cell? ⟨w.heap.size, 1, none⟩ = some (.slice b zs.length cb))
    (exact HS.out _ (by repeat (first | with_reducible exact Below.refl _ _ | with_reducible exact H4.mono (Nat.le_of_lt hz0) | with_reducible exact H3.mono (Nat.le_of_lt hz0) | with_reducible refine Below.drew ?_ | refine Below.setCell ?_ (Nat.le_refl (w.heap.size + 1)) _)))
    (first
      | (go_at_call 82; (with_reducible refine (libClone a ca vs _ hl (HA.out _ (Below.drew (Below.refl _ _))).2.1.v).mono ?_); rintro e w3 ⟨oa, oca, rfl, ho3, hb3⟩; have H3 : Below W0.heap.size W0 w3 := Below.trans (Below.drew (Below.refl _ _)) (hb3.mono (Nat.le_refl _)))
      | (go_at_call 82; (with_reducible refine (libClone b cb zs _ he (HA.out _ H3).2.1.z).mono ?_); rintro e w4 ⟨ob, ocb, rfl, ho4, hb4⟩; have H4 : Below W0.heap.size W0 w4 := H3.trans (hb4.mono H3.size); have E4 := (HA.out _ H4).2.2; have e40 := E4.c 0 _ rfl; have e41 := E4.c 1 _ rfl; have f4 := E4.f; have l4 := E4.lt; have hin := heapIn_pair (lo := W0.heap.size) (own_keeps ho3 hb4) ho4 (Nat.le_refl _) H3.size (fun j h1 h2 => by have h1 := (ho3.lt j h1).2; have h2 := (ho4.lt j h2).1; omega)))
  have tq : Turn w.heap.size (w.heap.size + 2) w4 ((w4.setCell ⟨w.heap.size + 1, 0, none⟩ (.slice oa vs.length oca)).setCell ⟨w.heap.size + 1, 1, none⟩ (.slice ob zs.length ocb)) := ((turn_set _ _ _ _).trans (turn_set _ _ _ _)).mono (by omega) (by omega)
  have hbE := Turn.below (B := w.heap.size) (hb0.trans (H4.mono (by omega))) tq (Nat.le_refl _) (Nat.le_trans (by omega) H4.size)
  have hend := Lib.hid (show _ ∧ _ from ⟨(hin.turn tq (.inr (by omega))).mono (lo' := w.heap.size) (by omega) tq.size (Nat.le_refl _), hbE⟩)
  clear hin hbE tq ho3 ho4
  go_wp2
  exact bodyPost_ret (v := heV oa vs.length oca ob zs.length ocb) (by simp [results, Tryd.results38, go_sem, e40, e41]) rfl ⟨oa, oca, ob, ocb, rfl, hend.out⟩
end Go.Proofs.YtpmmjaceehlpiaaDoor
/-
  The program's test whether a heap is one.
-/
namespace Go.Proofs.YtpmmjaceehlpiaaDoor
open Go Go.RowKit Go.Maps

theorem heapB_no {n : Int} {vs zs : List Int} (h : ¬ (1 ≤ n ∧ n ≤ 4 ∧ (vs.length : Int) = n ∧ zs.length ≤ 6)) : heapB n vs zs = false := by simp [heapB, h]
theorem heapB_bad {n : Int} {vs zs : List Int} (h : goodH vs zs = false) : heapB n vs zs = false := by simp [heapB, h]
theorem heapB_ring {n : Int} {vs zs : List Int} (h : acyc zs = false) : heapB n vs zs = false := by simp [heapB, h]
theorem heapB_yes {n : Int} {vs zs : List Int} (h : 1 ≤ n ∧ n ≤ 4 ∧ (vs.length : Int) = n ∧ zs.length ≤ 6) (hg : goodH vs zs = true) (ha : acyc zs = true) : heapB n vs zs = decide (order vs zs = upTo zs.length) := by simp [heapB, h, hg, ha]

set_option maxRecDepth 100000 in
set_option maxHeartbeats 1600000 in
theorem implIsHeap (n : Int) (a b : Option Addr) (ca cb : Nat) (vs zs : List Int) (w : World) (hv : vs.length ≤ maxLen) (hz : zs.length ≤ maxLen) (h : HeapAt w a b vs zs) :
    Calls Tryd.prog 36 #[.int .i64 n, heV a vs.length ca b zs.length cb] w (GaveX (.bool (heapB n vs zs)) w) := by
  have hv' := hv
  have hz' := hz
  unfold maxLen at hv' hz'
  have hat : ∀ W, Below w.heap.size w W → HeapAt W a b vs zs := fun W hb => h.below hb (Nat.le_refl _)
  have HAT := Lib.hid hat
  clear hat h
  by_cases h1 : n < 1
  · have hf := Lib.hid (heapB_no (n := n) (vs := vs) (zs := zs) (by omega))
    go_enter Tryd.func36, Tryd.ntmps36
    go_wp2
    go_ret
    rw [hf.out]
    exact ⟨rfl, (Below.refl _ _).alloc (Nat.le_refl _) _⟩
  · by_cases h2 : 4 < n
    · have hf := Lib.hid (heapB_no (n := n) (vs := vs) (zs := zs) (by omega))
      go_enter Tryd.func36, Tryd.ntmps36
      go_wp2
      go_ret
      rw [hf.out]
      exact ⟨rfl, (Below.refl _ _).alloc (Nat.le_refl _) _⟩
    · by_cases h3 : (vs.length : Int) = n
      · subst h3
        by_cases h4 : 6 < zs.length
        · have hf := Lib.hid (heapB_no (n := (vs.length : Int)) (vs := vs) (zs := zs) (by omega))
          go_enter Tryd.func36, Tryd.ntmps36
          go_wp2
          go_ret
          rw [hf.out]
          exact ⟨rfl, (Below.refl _ _).alloc (Nat.le_refl _) _⟩
        · have q1 : decide ((vs.length : Int) < 1) = false := decide_eq_false h1
          have q2 : decide (4 < (vs.length : Int)) = false := decide_eq_false h2
          have q4 : decide ((6 : Int) < (zs.length : Int)) = false := decide_eq_false (by omega)
          have hok : 1 ≤ (vs.length : Int) ∧ (vs.length : Int) ≤ 4 ∧ (vs.length : Int) = (vs.length : Int) ∧ zs.length ≤ 6 := ⟨by omega, by omega, rfl, by omega⟩
          have hl1 : vs.length ≤ 1048576 := by omega
          have hl2 : zs.length ≤ 1048576 := by omega
          go_enter Tryd.func36, Tryd.ntmps36
          go_wp2_with fail
          obtain ⟨W0, hW0, hb0, hs0, hA0⟩ := one_box2 w (.slice a vs.length ca) (.slice b zs.length cb) 29
          rw [hW0]
          clear hW0
          have hS : ∀ W, Below W0.heap.size W0 W → Box2 W w.heap.size (.slice a vs.length ca) (.slice b zs.length cb) ∧ Below w.heap.size w W := fun W hb => ⟨hA0.keep hs0 hb, hb0.trans (hb.mono hb0.size)⟩
          obtain ⟨c0, c1⟩ := hA0
          refine (implAreTargets a b a vs.length ca cb ca zs vs _ hl1 (HAT.out _ hb0).v).mono ?_
          rintro e w1 ⟨rfl, hb1⟩
          clear c0 c1
          obtain ⟨⟨c0, c1⟩, hB1⟩ := hS _ hb1
          cases hgv : goodB zs vs with
          | false =>
            have hf := Lib.hid (heapB_bad (n := (vs.length : Int)) (show goodH vs zs = false by simp [goodH, hgv]))
            go_wp2
            go_ret
            rw [hf.out]
            exact ⟨rfl, hB1⟩
          | true =>
            go_wp2_with fail
            refine (implAreTargets a b b vs.length ca cb cb zs zs _ hl2 (HAT.out _ hB1).z).mono ?_
            rintro e w2 ⟨rfl, hb2⟩
            have hb2 := hb1.trans (hb2.mono hb1.size)
            clear c0 c1
            obtain ⟨⟨c0, c1⟩, hB2⟩ := hS _ hb2
            cases hgz : goodB zs zs with
            | false =>
              have hf := Lib.hid (heapB_bad (n := (vs.length : Int)) (show goodH vs zs = false by simp [goodH, hgz]))
              go_wp2
              go_ret
              rw [hf.out]
              exact ⟨rfl, hB2⟩
            | true =>
              have hg : goodH vs zs = true := by simp [goodH, hgv, hgz]
              go_wp2_with fail
              refine (implHasCycle a b ca cb vs zs _ hl2 (HAT.out _ hB2) hgz).mono ?_
              rintro e w3 ⟨rfl, hb3⟩
              have hb3 := hb2.trans (hb3.mono hb2.size)
              clear c0 c1
              obtain ⟨⟨c0, c1⟩, hB3⟩ := hS _ hb3
              cases hac : acyc zs with
              | false =>
                have hf := Lib.hid (heapB_ring (n := (vs.length : Int)) (vs := vs) hac)
                go_wp2
                go_ret
                rw [hf.out]
                exact ⟨rfl, hB3⟩
              | true =>
                have hf := Lib.hid ((heapB_yes ⟨hok.1, hok.2.1, rfl, hok.2.2.2⟩ hg hac).trans (canon_same hg).symm)
                have hcv : (canonVs vs zs).length ≤ 4 := by simp only [canonVs, hg, if_true, canonV, List.length_map]; omega
                have hcn : (canonNs vs zs).length ≤ 6 := by have := (order_end vs zs).len; simp only [canonNs, hg, if_true, canonN, List.length_map]; omega
                have hS3 : ∀ W, Below w3.heap.size w3 W → (W.cell? ⟨w.heap.size, 0, none⟩ = some (.slice a vs.length ca) ∧ W.cell? ⟨w.heap.size, 1, none⟩ = some (.slice b zs.length cb)) ∧ Below w.heap.size w W := fun W hb => ⟨(hS _ (hb3.trans (hb.mono hb3.size))).1, hB3.trans (hb.mono hB3.size)⟩
                have hD : Below w3.heap.size w3 w3.drew := Below.drew (Below.refl _ _)
                clear c0 c1 h1 h2 h4 hok q1 q2 q4 hb1 hb2 hb3 hS
                go_wp2
                go_region_held3 (fun W => W.cell? ⟨w.heap.size, 0, none⟩ = some (.slice a vs.length ca) ∧ W.cell? ⟨w.heap.size, 1, none⟩ = some (.slice b zs.length cb))
                  (first | exact (hS3 _ hD).1 | exact (hS3 _ (Below.drew hD)).1 | exact (hS3 _ H4).1 | exact (hS3 _ H5).1)
                  (first
                    | (go_at_call 41; (with_reducible refine (implCanonHeap a b ca cb vs zs _ hl1 hl2 (HAT.out _ (hS3 _ hD).2)).mono ?_); rintro e w4 ⟨oa, oca, ob, ocb, rfl, hin, hb4⟩; have H4 := hD.trans (hb4.mono hD.size))
                    | (go_at_call 10; (with_reducible refine (implEqualHeap a b oa ob ca cb oca ocb vs zs (canonVs vs zs) (canonNs vs zs) _ hv hz (HAT.out _ (hS3 _ H4).2) hin.rows).mono ?_); rintro e w5 ⟨rfl, hb5⟩; have H5 := H4.trans (hb5.mono H4.size)))
                go_wp2
                go_ret
                rw [hf.out]
                exact ⟨rfl, (hS3 _ H5).2⟩
      · have h3b : ((vs.length : Int) != n) = true := by simpa using h3
        have hf := Lib.hid (heapB_no (n := n) (vs := vs) (zs := zs) (by omega))
        go_enter Tryd.func36, Tryd.ntmps36
        go_wp2
        go_ret
        rw [hf.out]
        exact ⟨rfl, (Below.refl _ _).alloc (Nat.le_refl _) _⟩
end Go.Proofs.YtpmmjaceehlpiaaDoor
/-
  The program's action that makes a cell.
-/
namespace Go.Proofs.YtpmmjaceehlpiaaDoor
open Go Go.RowKit Go.ChangeShapes Go.WideShapes Go.ChangeAt

/-- A row of a heap grew by one cell, perhaps in a new block. -/
theorem HeapIn.pushZ {lo hi B : Nat} {S : Nat → Prop} {W W' : World} {a b : Option Addr} {ca cb : Nat} {vs zs : List Int} {b' : Option Addr} {cb' : Nat} {x : Int} (h : HeapIn lo hi W a ca b cb (intVals vs) (intVals zs))
    (ho : W'.ownsRow lo 3 1 (.slice b' (zs.length + 1) cb') (zs.length + 1) (intVals (zs ++ [x]))) (hg : W.grownBy W' (Value.slice b zs.length cb).ownBlock) (hl : (Value.slice b' (zs.length + 1) cb').ownBlock = (Value.slice b zs.length cb).ownBlock ∨ ∃ k, (Value.slice b' (zs.length + 1) cb').ownBlock = some k ∧ B ≤ k) (hB : hi ≤ B) (hS : ∀ k, blocksH a b vs.length ca zs.length cb k → S k) :
    HeapIn lo W'.heap.size W' a ca b' cb' (intVals vs) (intVals (zs ++ [x])) ∧ TurnB lo hi S W W' ∧ ∀ k, blocksH a b' vs.length ca (zs ++ [x]).length cb' k → (S k ∧ k < hi) ∨ B ≤ k := by
  have el : (intVals (zs ++ [x])).length = zs.length + 1 := by rw [intVals_length]; simp
  have hv := h.v
  have hz := h.z
  have hap := h.apart
  rw [intVals_length] at hv hz hap
  rw [intVals_length] at hap
  have hv' := own_other hv.2.1 hg (fun k hk e => hap k hk e.symm)
  refine ⟨⟨?_, ?_, ?_⟩, TurnB.of_grown hg fun k hk => ⟨(hz.2.1.lt k hk).1, hz.2.2 k hk, hS k (.inr hk)⟩, fun k hk => ?_⟩
  · rw [intVals_length]
    exact ⟨Nat.le_refl _, hv', fun k hk => Nat.lt_of_lt_of_le (hv.2.2 k hk) (Nat.le_trans hv.1 hg.size)⟩
  · rw [el]
    exact OwnIn.of ho
  · rw [el, intVals_length]
    intro j hj1 hj2
    rcases hl with e | ⟨k, e, hk⟩
    · exact hap j hj1 (e ▸ hj2)
    · have h1 := hv.2.2 j hj1
      rw [e] at hj2
      have := Option.some.inj hj2
      omega
  · rcases hk with e | e
    · exact .inl ⟨hS k (.inl e), hv.2.2 k e⟩
    · rw [List.length_append, List.length_singleton] at e
      rcases hl with q | ⟨j, q, hj⟩
      · exact .inl ⟨hS k (.inr (q ▸ e)), hz.2.2 k (q ▸ e)⟩
      · rw [q] at e
        obtain rfl := Option.some.inj e
        exact .inr hj

set_option maxRecDepth 100000 in
set_option maxHeartbeats 1600000 in
theorem implDoNew {lo hi pa : Nat} {a b : Option Addr} {ca cb : Nat} {vs zs : List Int} (y : Int) {w : World} (h : HeapIn lo hi w a ca b cb (intVals vs) (intVals zs)) (hp : pa < vs.length) (hz6 : zs.length ≤ 6) :
    Calls Tryd.prog 73 #[heV a vs.length ca b zs.length cb, .int .i64 pa, .int .i64 y] w (Acted lo hi (blocksH a b vs.length ca zs.length cb) (if zs.length = 6 then badC 6 else (0, vs.set pa (zs.length : Int), zs ++ [-1])) w) := by
  obtain ⟨i0, hi0, hz0, hz1, hz2⟩ := info_parts intInfoH
  by_cases h6 : zs.length = 6
  · rw [if_pos h6]
    have h6i : ((zs.length : Int) == 6) = true := by simp only [beq_iff_eq]; omega
    clear h6 hz6
    go_enter Tryd.func73, Tryd.ntmps73
    go_wp2
    refine bodyPost_ret (v := .tuple #[heV none 0 0 none 0 0, .int .i64 6]) (by simp [results, Tryd.results73, go_sem]) rfl ?_
    refine acted_bad (TurnB.of_below ?_)
    repeat (first | with_reducible exact Below.refl _ _ | refine Below.drew ?_ | refine Below.alloc ?_ (by simp <;> omega) _ | refine Below.setCell ?_ (by simp <;> omega) _)
  · rw [if_neg h6]
    have h6i : ((zs.length : Int) == 6) = false := by simp only [beq_eq_false_iff_ne, ne_eq]; omega
    obtain ⟨g, rfl, hg1, hg2⟩ := h.v.block_ (by rw [intVals_length]; omega)
    have hhi := h.v.1
    have n0 : ¬ w.heap.size = g := by omega
    have n1 : ¬ w.heap.size + 1 = g := by omega
    have n2 : g < w.heap.size := by omega
    have n3 : g < w.heap.size + 1 := by omega
    have hold := h.v.cellInt pa hp
    have hfr := h.v.frozen_ pa
    have h1 := h.setV (k := pa) (zs.length : Int)
    have t1 : TurnB lo hi (blocksH (some ⟨g, 0, none⟩) b vs.length ca zs.length cb) w (w.setCell ⟨g, pa, none⟩ (.int .i64 (zs.length : Int))) := turnB_at _ hg1 hg2 (.inl rfl)
    obtain ⟨W0, hW0, hb0, bn0, bp0⟩ := two_boxL (w.setCell ⟨g, pa, none⟩ (.int .i64 (zs.length : Int))) [.slice (some ⟨g, 0, none⟩) vs.length ca, .slice b zs.length cb] [.slice none 0 0, .slice none 0 0] 29 29
    replace hW0 : ((w.setCell ⟨g, pa, none⟩ (.int .i64 (zs.length : Int))).alloc (.cells #[.slice (some ⟨g, 0, none⟩) vs.length ca, .slice b zs.length cb] 29)).alloc (.cells #[.slice none 0 0, .slice none 0 0] 29) = W0 := hW0
    have hs0 : (w.setCell ⟨g, pa, none⟩ (.int .i64 (zs.length : Int))).heap.size = w.heap.size := by simp
    rw [hs0] at bn0 bp0
    have h0 := h1.below hb0
    have T0 := t1.trans (TurnB.of_below hb0)
    have hown0 := h0.z.2.1
    rw [intVals_length] at hown0
    have hlow : lo ≤ W0.heap.size := by have := bp0.lt; omega
    have hal := (Below.refl W0.heap.size W0).alloc (Nat.le_refl _) (.cells #[.int .i64 (-1)] 3)
    have h0a := h0.below hal
    have bn0a := bn0.below hal
    have bp0a := bp0.below hal
    have T0a := T0.trans (TurnB.of_below hal)
    have hbig : w.heap.size + 1 < W0.heap.size := bp0.lt
    have hown0a := h0a.z.2.1
    rw [intVals_length] at hown0a
    have hzlt := h0a.z.2.2
    rw [intVals_length] at hzlt
    have k0 := bn0.c 0 _ rfl
    have k1 := bn0.c 1 _ rfl
    clear h1 t1 h bn0 bp0 hb0 T0 h0 hown0
    go_enter Tryd.func73, Tryd.ntmps73
    go_wp2_with (first
      | (at_builtin; (try rw [hW0]); refine wpList_append_own_at _ rfl (.tmp 21) (.tmp 22) 27 rfl lo 3 i0 (.int .i64 0) 1 8 Tryd.underlying27 hi0 hz0 hz1 hz2 rfl (by decide) _ zs.length _ rfl hown0a ⟨W0.heap.size, 0, none⟩ 1 1 [.int .i64 (-1)] rfl rfl (oneCell_at _) (oneCell_int _) (by unfold maxLen; omega) (by omega) (by simp; omega) ?_; intro v5 w5 hown5 hg5 _ hloc; obtain ⟨va5, vc5, rfl, _⟩ := own_shape hown5; obtain ⟨h5, t5, hbl⟩ := h0a.pushZ (S := blocksH (some ⟨g, 0, none⟩) b vs.length ca zs.length cb) (B := W0.heap.size) (x := -1) (by rw [intVals_snoc]; exact hown5) hg5 (hloc.imp id fun e => Exists.intro _ (And.intro e (by simp))) (by omega) (fun k hk => blocksH_any hk); have bn5 := bn0a.turn t5.t (.inr (by omega)); have bp5 := bp0a.turn t5.t (.inr (by omega)); have d0 := bn5.c 0 _ rfl; have d1 := bn5.c 1 _ rfl; have df := bn5.f; have e0 := bp5.c 0 _ rfl; have e1 := bp5.c 1 _ rfl; have ef := bp5.f; have hs5 := bp5.lt; clear bn5 bp5 bn0a bp0a hown5 hg5 hloc h0a hown0a hzlt)
      | fail)
    refine bodyPost_ret (v := .tuple #[heV (some ⟨g, 0, none⟩) vs.length ca va5 (zs.length + 1) vc5, .int .i64 0]) (by simp [results, Tryd.results73, go_sem, e0, e1]) rfl ?_
    refine acted_of List.length_set (by simp) ?_ ?_ (fun k hk => (hbl k hk).imp (fun hh => hh.1) (fun hh => by omega))
    · have hs : (((w5.setCell ⟨w.heap.size, 1, none⟩ (.slice va5 (zs.length + 1) vc5)).setCell ⟨w.heap.size + 1, 0, none⟩ (.slice (some ⟨g, 0, none⟩) vs.length ca)).setCell ⟨w.heap.size + 1, 1, none⟩ (.slice va5 (zs.length + 1) vc5)).heap.size = w5.heap.size := by simp
      rw [hs]
      exact ((h5.setNot fun k hk => by have := hbl k hk; omega).setNot fun k hk => by have := hbl k hk; omega).setNot fun k hk => by have := hbl k hk; omega
    · repeat (first | with_reducible exact T0a.trans t5 | refine TurnB.setNew ?_ (by omega))
end Go.Proofs.YtpmmjaceehlpiaaDoor
/-
  The model's copy of a heap.
-/
namespace Go.Proofs.YtpmmjaceehlpiaaDoor
open Go Go.RowKit

theorem intVals_onec (l : List Int) : ∀ u ∈ intVals l, u.oneCell' = true := by
  intro u hu
  obtain ⟨x, _, rfl⟩ := List.mem_map.1 hu
  rfl
set_option maxHeartbeats 1600000 in
set_option maxRecDepth 100000 in
theorem specCopy (a b : Option Addr) (ca cb : Nat) (vs zs : List Int) (w : World) (hna : a = none → ca = 0) (hnb : b = none → cb = 0) (hr : HeapAt w a b vs zs) (hl : vs.length ≤ 100) (he : zs.length ≤ 100) :
    Calls Tryd.prog 49 #[heV a vs.length ca b zs.length cb] w (MadeHeap vs zs w) := by
  obtain ⟨ha, hb⟩ := hr
  have hna' : a = none → vs.length = 0 ∧ ca = 0 := fun h => ⟨by subst h; have := row_nil ha; simpa [intVals] using this, hna h⟩
  have hnb' : b = none → zs.length = 0 ∧ cb = 0 := fun h => ⟨by subst h; have := row_nil hb; simpa [intVals] using this, hnb h⟩
  obtain ⟨i0, hi, hz0, hz1, hz2⟩ := info_parts intInfo
  go_enter Tryd.func49, Tryd.ntmps49
  go_wp2_with fail
  obtain ⟨W0, hW0, hb0, hA0, hA1⟩ := two_boxL w [.slice a vs.length ca, .slice b zs.length cb] [.slice none 0 0, .slice none 0 0] 29 29
  simp only [List.toArray] at hW0
  rw [hW0]
  clear hW0
  have hs0 := hA1.lt
  have c0 := hA0.c 0 _ rfl
  have c1 := hA0.c 1 _ rfl
  have hN1 : w.heap.size + 1 ≤ W0.heap.size := by omega
  have hAll : ∀ W, Below (w.heap.size + 1) W0 W → W.cell? ⟨w.heap.size, 0, none⟩ = some (.slice a vs.length ca) ∧ W.cell? ⟨w.heap.size, 1, none⟩ = some (.slice b zs.length cb) := fun W h => ⟨(h.cell (p := ⟨w.heap.size, 0, none⟩) (by show w.heap.size < _; omega)).trans c0, (h.cell (p := ⟨w.heap.size, 1, none⟩) (by show w.heap.size < _; omega)).trans c1⟩
  go_region_held3 (fun w' => w'.cell? ⟨w.heap.size, 0, none⟩ = some (.slice a vs.length ca) ∧ w'.cell? ⟨w.heap.size, 1, none⟩ = some (.slice b zs.length cb))
    (exact hAll _ (by repeat (first | with_reducible exact Below.refl _ _ | with_reducible exact H6.mono hN1 | with_reducible exact H12.mono hN1 | with_reducible refine Below.drew ?_ | refine Below.setCell ?_ (by show w.heap.size + 1 ≤ w.heap.size + 1; exact Nat.le_refl _) _ | refine Below.alloc ?_ (Nat.le_trans hN1 (by first | omega | exact H6.size | exact H12.size | exact Nat.le_trans H6.size (by simp) | exact Nat.le_trans H12.size (by simp) | (simp; done))) _)))
    (first
          | (refine step_append_row _ rfl (.tmp 3) (.tmp 5) 27 rfl W0.heap.size 3 i0 (.int .i64 0) 1 8 Tryd.underlying27 hi hz0 hz1 hz2 rfl (by decide) (.slice (some ⟨_, 0, none⟩) 0 0) 0 [] rfl (empty_own ?_ ?_) a vs.length ca (intVals vs) rfl hna' (by simp [intVals]) ?_ (intVals_onec vs) (by unfold maxLen; omega) (by omega) ?_ ?_
             · repeat (first | with_reducible exact emp_at rfl | (refine emp_at ?_; simp; done) | with_reducible refine emp_drew ?_ | with_reducible refine emp_keep ?_ _ | with_reducible refine emp_grown ?_ hg6 (by have := H6.size; simp [Value.ownBlock] <;> omega) | with_reducible refine emp_grown ?_ hg12 (by have := H12.size; simp [Value.ownBlock] <;> omega))
             · first | exact Nat.le_refl _ | exact H12.size | omega | (simp; done) | (simp; omega)
             · exact row_news ((ha.below hb0).below ((show Below W0.heap.size W0 _ from (by repeat (first | with_reducible exact Below.refl _ _ | with_reducible exact H6 | with_reducible exact H12 | with_reducible refine Below.drew ?_ | refine Below.alloc ?_ (by first | omega | exact H6.size | exact H12.size | exact Nat.le_trans H6.size (by simp) | exact Nat.le_trans H12.size (by simp) | (simp; done)) _))).mono hb0.size))
             · first | exact H12.size | exact Nat.le_trans H12.size (by simp) | (simp; done) | (simp; omega)
             intro v6 w6 own6 hg6 hat6 hbw6
             simp only [Nat.zero_add, List.nil_append] at own6
             obtain ⟨a6, c6, rfl, hc6⟩ := own_shape own6
             have H6 : Below W0.heap.size W0 w6 := Below.trans (by repeat (first | with_reducible exact Below.refl _ _ | with_reducible exact H6 | with_reducible exact H12 | with_reducible refine Below.drew ?_ | refine Below.alloc ?_ (by first | omega | exact H6.size | exact H12.size | exact Nat.le_trans H6.size (by simp) | exact Nat.le_trans H12.size (by simp) | (simp; done)) _)) hbw6
             have s6 := hg6.size
             try simp only [Value.ownBlock] at hat6
             try simp at s6 hat6
             have own12' := own12
             have ofin := own_after hg6 own12 (by
               intro k hk e
               have hlt := (own12.lt k hk).2
               try simp only [Value.ownBlock] at hk e
               try simp at e
               rcases hat12 with q | q <;> (rw [hk] at q; try simp at q; omega))
             have E := hA1.below H6
             have e0 := E.c 0 _ rfl
             have e1 := E.c 1 _ rfl
             have f12 := E.f)
          | (refine step_append_row _ rfl (.tmp 3) (.tmp 5) 27 rfl W0.heap.size 3 i0 (.int .i64 0) 1 8 Tryd.underlying27 hi hz0 hz1 hz2 rfl (by decide) (.slice (some ⟨_, 0, none⟩) 0 0) 0 [] rfl (empty_own ?_ ?_) a vs.length ca (intVals vs) rfl hna' (by simp [intVals]) ?_ (intVals_onec vs) (by unfold maxLen; omega) (by omega) ?_ ?_
             · repeat (first | with_reducible exact emp_at rfl | (refine emp_at ?_; simp; done) | with_reducible refine emp_drew ?_ | with_reducible refine emp_keep ?_ _ | with_reducible refine emp_grown ?_ hg6 (by have := H6.size; simp [Value.ownBlock] <;> omega) | with_reducible refine emp_grown ?_ hg12 (by have := H12.size; simp [Value.ownBlock] <;> omega))
             · first | exact Nat.le_refl _ | exact H12.size | omega | (simp; done) | (simp; omega)
             · exact row_news ((ha.below hb0).below ((show Below W0.heap.size W0 _ from (by repeat (first | with_reducible exact Below.refl _ _ | with_reducible exact H6 | with_reducible exact H12 | with_reducible refine Below.drew ?_ | refine Below.alloc ?_ (by first | omega | exact H6.size | exact H12.size | exact Nat.le_trans H6.size (by simp) | exact Nat.le_trans H12.size (by simp) | (simp; done)) _))).mono hb0.size))
             · first | exact H12.size | exact Nat.le_trans H12.size (by simp) | (simp; done) | (simp; omega)
             intro v6 w6 own6 hg6 hat6 hbw6
             simp only [Nat.zero_add, List.nil_append] at own6
             obtain ⟨a6, c6, rfl, hc6⟩ := own_shape own6
             have H6 : Below W0.heap.size W0 w6 := Below.trans (by repeat (first | with_reducible exact Below.refl _ _ | with_reducible exact H6 | with_reducible exact H12 | with_reducible refine Below.drew ?_ | refine Below.alloc ?_ (by first | omega | exact H6.size | exact H12.size | exact Nat.le_trans H6.size (by simp) | exact Nat.le_trans H12.size (by simp) | (simp; done)) _)) hbw6
             have s6 := hg6.size
             try simp only [Value.ownBlock] at hat6
             try simp at s6 hat6)
          | (refine step_append_row _ rfl (.tmp 7) (.tmp 9) 27 rfl W0.heap.size 3 i0 (.int .i64 0) 1 8 Tryd.underlying27 hi hz0 hz1 hz2 rfl (by decide) (.slice (some ⟨_, 0, none⟩) 0 0) 0 [] rfl (empty_own ?_ ?_) b zs.length cb (intVals zs) rfl hnb' (by simp [intVals]) ?_ (intVals_onec zs) (by unfold maxLen; omega) (by omega) ?_ ?_
             · repeat (first | with_reducible exact emp_at rfl | (refine emp_at ?_; simp; done) | with_reducible refine emp_drew ?_ | with_reducible refine emp_keep ?_ _ | with_reducible refine emp_grown ?_ hg6 (by have := H6.size; simp [Value.ownBlock] <;> omega) | with_reducible refine emp_grown ?_ hg12 (by have := H12.size; simp [Value.ownBlock] <;> omega))
             · first | exact Nat.le_refl _ | exact H6.size | omega | (simp; done) | (simp; omega)
             · exact row_news ((hb.below hb0).below ((show Below W0.heap.size W0 _ from (by repeat (first | with_reducible exact Below.refl _ _ | with_reducible exact H6 | with_reducible exact H12 | with_reducible refine Below.drew ?_ | refine Below.alloc ?_ (by first | omega | exact H6.size | exact H12.size | exact Nat.le_trans H6.size (by simp) | exact Nat.le_trans H12.size (by simp) | (simp; done)) _))).mono hb0.size))
             · first | exact H6.size | exact Nat.le_trans H6.size (by simp) | (simp; done) | (simp; omega)
             intro v12 w12 own12 hg12 hat12 hbw12
             simp only [Nat.zero_add, List.nil_append] at own12
             obtain ⟨a12, c12, rfl, hc12⟩ := own_shape own12
             have H12 : Below W0.heap.size W0 w12 := Below.trans (by repeat (first | with_reducible exact Below.refl _ _ | with_reducible exact H6 | with_reducible exact H12 | with_reducible refine Below.drew ?_ | refine Below.alloc ?_ (by first | omega | exact H6.size | exact H12.size | exact Nat.le_trans H6.size (by simp) | exact Nat.le_trans H12.size (by simp) | (simp; done)) _)) hbw12
             have s12 := hg12.size
             try simp only [Value.ownBlock] at hat12
             try simp at s12 hat12
             have own6' := own6
             have ofin := own_after hg12 own6 (by
               intro k hk e
               have hlt := (own6.lt k hk).2
               try simp only [Value.ownBlock] at hk e
               try simp at e
               rcases hat6 with q | q <;> (rw [hk] at q; try simp at q; omega))
             have E := hA1.below H12
             have e0 := E.c 0 _ rfl
             have e1 := E.c 1 _ rfl
             have f12 := E.f)
          | (refine step_append_row _ rfl (.tmp 7) (.tmp 9) 27 rfl W0.heap.size 3 i0 (.int .i64 0) 1 8 Tryd.underlying27 hi hz0 hz1 hz2 rfl (by decide) (.slice (some ⟨_, 0, none⟩) 0 0) 0 [] rfl (empty_own ?_ ?_) b zs.length cb (intVals zs) rfl hnb' (by simp [intVals]) ?_ (intVals_onec zs) (by unfold maxLen; omega) (by omega) ?_ ?_
             · repeat (first | with_reducible exact emp_at rfl | (refine emp_at ?_; simp; done) | with_reducible refine emp_drew ?_ | with_reducible refine emp_keep ?_ _ | with_reducible refine emp_grown ?_ hg6 (by have := H6.size; simp [Value.ownBlock] <;> omega) | with_reducible refine emp_grown ?_ hg12 (by have := H12.size; simp [Value.ownBlock] <;> omega))
             · first | exact Nat.le_refl _ | exact H6.size | omega | (simp; done) | (simp; omega)
             · exact row_news ((hb.below hb0).below ((show Below W0.heap.size W0 _ from (by repeat (first | with_reducible exact Below.refl _ _ | with_reducible exact H6 | with_reducible exact H12 | with_reducible refine Below.drew ?_ | refine Below.alloc ?_ (by first | omega | exact H6.size | exact H12.size | exact Nat.le_trans H6.size (by simp) | exact Nat.le_trans H12.size (by simp) | (simp; done)) _))).mono hb0.size))
             · first | exact H6.size | exact Nat.le_trans H6.size (by simp) | (simp; done) | (simp; omega)
             intro v12 w12 own12 hg12 hat12 hbw12
             simp only [Nat.zero_add, List.nil_append] at own12
             obtain ⟨a12, c12, rfl, hc12⟩ := own_shape own12
             have H12 : Below W0.heap.size W0 w12 := Below.trans (by repeat (first | with_reducible exact Below.refl _ _ | with_reducible exact H6 | with_reducible exact H12 | with_reducible refine Below.drew ?_ | refine Below.alloc ?_ (by first | omega | exact H6.size | exact H12.size | exact Nat.le_trans H6.size (by simp) | exact Nat.le_trans H12.size (by simp) | (simp; done)) _)) hbw12
             have s12 := hg12.size
             try simp only [Value.ownBlock] at hat12
             try simp at s12 hat12))
  all_goals
    have hap : ∀ j, (Value.slice a6 vs.length c6).ownBlock = some j → (Value.slice a12 zs.length c12).ownBlock ≠ some j := by
      intro k hk e
      have hlt := (own6.lt k hk).2
      try simp only [Value.ownBlock] at hk e
      rcases hat6 with q | q <;> rcases hat12 with p | p <;> (rw [hk] at q; rw [e] at p; (try simp at q); (try simp at p); omega)
    have tq : Turn w.heap.size (w.heap.size + 2) w12 ((w12.setCell ⟨w.heap.size + 1, 0, none⟩ (.slice a6 vs.length c6)).setCell ⟨w.heap.size + 1, 1, none⟩ (.slice a12 zs.length c12)) := ((turn_set _ _ _ _).trans (turn_set _ _ _ _)).mono (by omega) (by omega)
    have hbE := Turn.below (B := w.heap.size) (hb0.trans (H12.mono (by omega))) tq (Nat.le_refl _) (Nat.le_trans (by omega) H12.size)
    have hin : HeapIn W0.heap.size w12.heap.size w12 a6 c6 a12 c12 (intVals vs) (intVals zs) := ⟨by rw [intVals_length]; exact OwnIn.of ofin, by rw [intVals_length]; exact OwnIn.of own12, by rw [intVals_length, intVals_length]; exact hap⟩
    have hend := Lib.hid (show _ ∧ _ from ⟨(hin.turn tq (.inr (by omega))).mono (lo' := w.heap.size) (by omega) tq.size (Nat.le_refl _), hbE⟩)
    clear hin hbE tq own6' ofin own12 own6 hat6 hat12
    go_wp2
    exact bodyPost_ret (v := heV a6 vs.length c6 a12 zs.length c12) (by simp [results, Tryd.results49, go_sem, e0, e1]) rfl ⟨a6, c6, a12, c12, rfl, hend.out⟩
end Go.Proofs.YtpmmjaceehlpiaaDoor
/-
  What Exec comes to, case by case; how it ends.
-/
namespace Go.Proofs.YtpmmjaceehlpiaaDoor
open Go Go.RowKit Go.ChangeShapes Go.WideShapes Go.ChangeAt

theorem heapIn_two {lo b3 b4 : Nat} {w3 X w4 : World} {oa ob : Option Addr} {oca ocb : Nat} {vs zs : List Int} (hlo : lo ≤ b3) (h3 : w3.ownsRow b3 3 1 (.slice oa vs.length oca) vs.length (intVals vs)) (hX : Below w3.heap.size w3 X) (hb : Below X.heap.size X w4)
    (h4 : w4.ownsRow b4 3 1 (.slice ob zs.length ocb) zs.length (intVals zs)) (hb4 : w3.heap.size ≤ b4) (hl4 : lo ≤ b4 := by omega) : HeapIn lo w4.heap.size w4 oa oca ob ocb (intVals vs) (intVals zs) := by
  have hB := hX.trans (hb.mono hX.size)
  have k3 := own_keeps h3 hB
  refine ⟨?_, ?_, ?_⟩
  · rw [intVals_length]
    exact (OwnIn.of k3).mono hlo (Nat.le_refl _) (Nat.le_refl _)
  · rw [intVals_length]
    exact (OwnIn.of h4).mono hl4 (Nat.le_refl _) (Nat.le_refl _)
  · rw [intVals_length, intVals_length]
    intro j h1 h2
    have := (h3.lt j h1).2
    have := (h4.lt j h2).1
    omega
theorem exec_code {ss : List ByteArray} {k c : Int} {a b : ByteArray} {vs zs us ys : List Int} (h1 : stmtB ss k a b = true) (h2 : heapB (ss.length : Int) vs zs = true) (h : doS k (place ss a).toNat (place ss b).toNat vs zs = (c, us, ys)) (hc : ¬ c = 0) : execS ss k a b vs zs = badC c := by
  unfold execS
  rw [if_pos ⟨h1, h2⟩, h, if_neg hc]
theorem exec_leak {ss : List ByteArray} {k : Int} {a b : ByteArray} {vs zs us ys : List Int} (h1 : stmtB ss k a b = true) (h2 : heapB (ss.length : Int) vs zs = true) (h : doS k (place ss a).toNat (place ss b).toNat vs zs = (0, us, ys)) (hl : leakB us ys = true) : execS ss k a b vs zs = badC 4 := by
  unfold execS
  rw [if_pos ⟨h1, h2⟩, h, if_pos rfl, if_pos hl]
theorem exec_ok {ss : List ByteArray} {k : Int} {a b : ByteArray} {vs zs us ys : List Int} (h1 : stmtB ss k a b = true) (h2 : heapB (ss.length : Int) vs zs = true) (h : doS k (place ss a).toNat (place ss b).toNat vs zs = (0, us, ys)) (hl : leakB us ys = false) : execS ss k a b vs zs = (0, canonVs us ys, canonNs us ys) := by
  unfold execS
  rw [if_pos ⟨h1, h2⟩, h, if_pos rfl, if_neg (by simp [hl])]
/-- The answer is written into a box that lies ahead of the answer's rows. -/
theorem heap_res {lo hi Q : Nat} {w W : World} {a b : Option Addr} {ca cb : Nat} {vs zs : List Int} {u v : Value} (h : HeapIn lo hi W a ca b cb (intVals vs) (intVals zs)) (hB : Below w.heap.size w W) (hQ : w.heap.size ≤ Q) (hlo : Q < lo) :
    HeapIn w.heap.size ((W.setCell ⟨Q, 0, none⟩ u).setCell ⟨Q, 1, none⟩ v).heap.size ((W.setCell ⟨Q, 0, none⟩ u).setCell ⟨Q, 1, none⟩ v) a ca b cb (intVals vs) (intVals zs) ∧ Below w.heap.size w ((W.setCell ⟨Q, 0, none⟩ u).setCell ⟨Q, 1, none⟩ v) := by
  have hbl := h.blocks
  have hs : ((W.setCell ⟨Q, 0, none⟩ u).setCell ⟨Q, 1, none⟩ v).heap.size = W.heap.size := by simp
  refine ⟨?_, (hB.setCell hQ _).setCell hQ _⟩
  rw [hs]
  exact ((h.setNot (Q := Q) fun k hk => by have := hbl k hk; omega).setNot (Q := Q) fun k hk => by have := hbl k hk; omega).mono (by omega) h.v.1 (by rw [hs]; exact Nat.le_refl _)
theorem Box2.keepL {W : World} {Q : Nat} {x y : Value} (h0 : W.cell? ⟨Q, 0, none⟩ = some x) (h1 : W.cell? ⟨Q, 1, none⟩ = some y) : ∀ i u, [x, y][i]? = some u → W.cell? ⟨Q, i, none⟩ = some u
  | 0, u, hu => by obtain rfl := Option.some.inj hu; exact h0
  | 1, u, hu => by obtain rfl := Option.some.inj hu; exact h1
  | _ + 2, u, hu => by simp at hu
theorem box_of {W : World} {Q : Nat} {x y : Value} (hf : ∀ o, W.frozen? ⟨Q, o, none⟩ = false) (hl : Q < W.heap.size) (h0 : W.cell? ⟨Q, 0, none⟩ = some x) (h1 : W.cell? ⟨Q, 1, none⟩ = some y) : BoxL W Q [x, y] :=
  ⟨Box2.keepL h0 h1, hf, hl⟩
theorem turn_cell_ {lo hi : Nat} {p : Addr} {x : Value} {q : Prop} {W W' : World} (t : Turn lo hi W W') (hp : p.block < W.heap.size) (hd : p.block < lo ∨ hi ≤ p.block) (hx : W.cell? p = some x) (k : W'.cell? p = some x → q) : q := k ((World.cell?_of_block (t.block _ hp hd)).trans hx)
theorem turn_frozen_ {lo hi g : Nat} {q : Prop} {W W' : World} (t : Turn lo hi W W') (hp : g < W.heap.size) (hd : g < lo ∨ hi ≤ g) (hx : ∀ o, W.frozen? ⟨g, o, none⟩ = false) (k : (∀ o, W'.frozen? ⟨g, o, none⟩ = false) → q) : q := k fun o => (World.frozen?_of_block (t.block _ hp hd)).trans (hx o)
theorem keep_cell {B : Nat} {p : Addr} {x : Value} {q : Prop} {W W' : World} (hb : Below B W W') (hp : p.block < B) (hx : W.cell? p = some x) (k : W'.cell? p = some x → q) : q := k ((hb.cell hp).trans hx)
theorem keep_frozen {B g : Nat} {q : Prop} {W W' : World} (hb : Below B W W') (hp : g < B) (hx : ∀ o, W.frozen? ⟨g, o, none⟩ = false) (k : (∀ o, W'.frozen? ⟨g, o, none⟩ = false) → q) : q := k fun o => (hb.frozen (p := ⟨g, o, none⟩) hp).trans (hx o)
/-- An answer of Exec: a heap that the call made, a code. -/
def ExecEnd (r : Act3) (w : World) (e : Ending) (w' : World) : Prop :=
  ∃ a ca b cb, e = .returned (.tuple #[heV a r.2.1.length ca b r.2.2.length cb, .int .i64 r.1]) ∧ HeapIn w.heap.size w'.heap.size w' a ca b cb (intVals r.2.1) (intVals r.2.2) ∧ Below w.heap.size w w'
theorem exec_bad {k : Int} {w w' : World} (h : Below w.heap.size w w') : ExecEnd (badC k) w (.returned (.tuple #[heV none 0 0 none 0 0, .int .i64 k])) w' :=
  ⟨none, 0, none, 0, rfl, heapIn_nil (Nat.le_refl _), h⟩
theorem place_in {ss : List ByteArray} {s : ByteArray} (h : 0 ≤ place ss s) : place ss s < (ss.length : Int) := by
  unfold place at *
  have key : ∀ (l : List ByteArray) (k : Nat), 0 ≤ placeFrom s k l → placeFrom s k l < ((k + l.length : Nat) : Int) := by
    intro l
    induction l with
    | nil => intro k h; simp [placeFrom] at h
    | cons x l ih =>
      intro k h
      simp only [placeFrom, List.length_cons] at *
      split at h
      · rename_i hx
        rw [if_pos hx]
        omega
      · rename_i hx
        rw [if_neg hx]
        have := ih (k + 1) h
        omega
  have := key ss 0 h
  simpa using this
/-- What a valid statement says of its names. -/
theorem stmt_names {ss : List ByteArray} {k : Int} {a b : ByteArray} (h : stmtB ss k a b = true) : (1 ≤ k ∧ k ≤ 12) ∧ (1 ≤ namesN k → 0 ≤ place ss a) ∧ (2 ≤ namesN k → 0 ≤ place ss b) := by
  simp only [stmtB, Bool.and_eq_true, decide_eq_true_eq] at h
  obtain ⟨⟨⟨_, hn⟩, ha⟩, hb⟩ := h
  refine ⟨Classical.byContradiction fun hk => by rw [namesN_none hk] at hn; omega, fun h1 => ?_, fun h2 => ?_⟩
  · rw [decide_eq_true h1] at ha
    simpa [operandB] using ha
  · rw [decide_eq_true h2] at hb
    simpa [operandB] using hb

end Go.Proofs.YtpmmjaceehlpiaaDoor
/-
  The model's tests of a heap, its canonical heap.
-/
namespace Go.Proofs.YtpmmjaceehlpiaaDoor
open Go Go.RowKit Go.Sort

theorem in_good (zs : List Int) (c : Int) : (decide (-1 ≤ c) && decide (c ≤ (zs.length : Int) - 1)) = (decide (c = -1) || isC zs c) := by
  by_cases h : c = -1
  · subst h
    simp
    omega
  · by_cases h0 : 0 ≤ c <;> by_cases h1 : c < (zs.length : Int)
    all_goals simp [isC, h, h0, h1]
    all_goals omega
theorem wrap_less {n : Nat} (h : n ≤ 9223372036854775807) : IntKind.i64.wrap ((n : Int) - 1) = (n : Int) - 1 := by
  simp [IntKind.wrap, IntKind.bits, IntKind.signed]
  omega
theorem goodB_miss {zs l : List Int} {k : Nat} (h : k < l.length) (hb : (decide (l[k] = -1) || isC zs l[k]) = false) : goodB zs l = false := by
  simp only [Bool.or_eq_false_iff, decide_eq_false_iff_not] at hb
  exact goodB_bad h hb.1 hb.2
theorem goodB_more {zs l : List Int} {k : Nat} (h : k < l.length) (ha : goodB zs (l.take k) = true) (hb : (decide (l[k] = -1) || isC zs l[k]) = true) : goodB zs (l.take (k + 1)) = true := by
  simp only [Bool.or_eq_true, decide_eq_true_eq] at hb
  exact goodB_next h ha hb

set_option maxRecDepth 100000 in
set_option maxHeartbeats 1600000 in
theorem specCells (a b : Option Addr) (ca cb : Nat) (vs zs : List Int) (w : World) (hv : vs.length ≤ maxLen) (hz : zs.length ≤ maxLen) (h : HeapAt w a b vs zs) :
    Calls Tryd.prog 55 #[heV a vs.length ca b zs.length cb] w (GaveX (.bool (goodH vs zs)) w) := by
  unfold maxLen at hv hz
  have hat : ∀ W, Below w.heap.size w W → HeapAt W a b vs zs := fun W hb => h.below hb (Nat.le_refl _)
  have HAT := Lib.hid hat
  clear hat h
  go_enter Tryd.func55, Tryd.ntmps55
  go_wp2
  obtain ⟨W0, hW0, hb0, hs0, hA0⟩ := one_box2 w (.slice a vs.length ca) (.slice b zs.length cb) 29
  rw [hW0]
  clear hW0
  have hS0 : ∀ W, Below W0.heap.size W0 W → W.cell? ⟨w.heap.size, 0, none⟩ = some (.slice a vs.length ca) ∧ W.cell? ⟨w.heap.size, 1, none⟩ = some (.slice b zs.length cb) := fun W hb => hA0.keep hs0 hb
  have HS0 := Lib.hid hS0
  clear hS0 hA0
  go_loopw [3] (fun i wr => ∃ k : Nat, k ≤ vs.length ∧ i = .int .i64 k ∧ goodB zs (vs.take k) = true ∧ Below W0.heap.size W0 wr) (fun i _ => vs.length - (intOf i).toNat)
  case atStart => exact ⟨0, Nat.zero_le _, rfl, rfl, Below.refl _ _⟩
  case round =>
    obtain ⟨k, hk, rfl, hall, hb⟩ := hrel
    have hBr := hb0.trans (hb.mono hb0.size)
    have Hall := Lib.hid hall
    clear hall
    obtain ⟨c0, c1⟩ := HS0.out _ hb
    by_cases hlt : k < vs.length
    · obtain ⟨bv, ov, rfl, hbv, hcv⟩ := (HAT.out _ hBr).v k _ (intVals_at vs k hlt)
      have hyes := goodB_more hlt Hall.out
      have hno := goodB_miss (zs := zs) hlt
      have hS : ∀ W, Below wr.heap.size wr W → (W.cell? ⟨w.heap.size, 0, none⟩ = some (.slice (some ⟨bv, ov, none⟩) vs.length ca) ∧ W.cell? ⟨w.heap.size, 1, none⟩ = some (.slice b zs.length cb)) ∧ W.cell? ⟨bv, ov + k, none⟩ = some (.int .i64 vs[k]) := fun W hB =>
        ⟨HS0.out _ (hb.trans (hB.mono hb.size)), (hB.cell (p := ⟨bv, ov + k, none⟩) hbv).trans hcv⟩
      have hin := in_good zs vs[k]
      generalize (decide (vs[k] = -1) || isC zs vs[k]) = q at *
      generalize vs[k] = x at *
      have hlz := wrap_less (n := zs.length) (by omega)
      have hD : Below wr.heap.size wr wr.drew := Below.drew (Below.refl _ _)
      have Hyes := Lib.hid hyes
      have Hno := Lib.hid hno
      clear hyes hno
      go_wp2
      clear c0 c1 hcv
      go_region_held3 (fun W => (W.cell? ⟨w.heap.size, 0, none⟩ = some (.slice (some ⟨bv, ov, none⟩) vs.length ca) ∧ W.cell? ⟨w.heap.size, 1, none⟩ = some (.slice b zs.length cb)) ∧ W.cell? ⟨bv, ov + k, none⟩ = some (.int .i64 x))
        (first | exact hS _ hD | exact hS _ (Below.drew hD))
        (first
          | (go_at_call 54; (with_reducible refine (specIn x (-1) ((zs.length : Int) - 1) _).mono ?_); rw [hin]; rintro e w1 ⟨rfl, rfl⟩))
      cases q with
      | false =>
        have hf := Lib.hid (show goodH vs zs = false by simp [goodH, Hno.out rfl])
        go_wp2
        go_ret
        rw [hf.out]
        exact ⟨rfl, hBr.trans (hD.mono hBr.size)⟩
      | true =>
        have hy := Lib.hid (Hyes.out rfl)
        go_wp2
        go_roundw
        case rel => exact ⟨k + 1, by omega, by go_num, hy.out, hb.trans (hD.mono hb.size)⟩
        case measure => simp [intOf]; omega
    · have hk' : k = vs.length := by omega
      have hgv : goodB zs vs = true := by have := Hall.out; rwa [hk', List.take_length] at this
      clear hk' Hall
      go_wp2
      go_loopw [4] (fun i wr => ∃ k : Nat, k ≤ zs.length ∧ i = .int .i64 k ∧ goodB zs (zs.take k) = true ∧ Below W0.heap.size W0 wr) (fun i _ => zs.length - (intOf i).toNat)
      case atStart => exact ⟨0, Nat.zero_le _, rfl, rfl, hb⟩
      case round =>
        clear hb hBr c0 c1
        obtain ⟨k, hk, rfl, hall, hb⟩ := hrel
        have hBr := hb0.trans (hb.mono hb0.size)
        have Hall := Lib.hid hall
        clear hall
        obtain ⟨c0, c1⟩ := HS0.out _ hb
        by_cases hlt : k < zs.length
        · obtain ⟨bv, ov, rfl, hbv, hcv⟩ := (HAT.out _ hBr).z k _ (intVals_at zs k hlt)
          have hyes := goodB_more hlt Hall.out
          have hno := goodB_miss (zs := zs) hlt
          have hS : ∀ W, Below wr.heap.size wr W → (W.cell? ⟨w.heap.size, 0, none⟩ = some (.slice a vs.length ca) ∧ W.cell? ⟨w.heap.size, 1, none⟩ = some (.slice (some ⟨bv, ov, none⟩) zs.length cb)) ∧ W.cell? ⟨bv, ov + k, none⟩ = some (.int .i64 zs[k]) := fun W hB =>
            ⟨HS0.out _ (hb.trans (hB.mono hb.size)), (hB.cell (p := ⟨bv, ov + k, none⟩) hbv).trans hcv⟩
          have hin := in_good zs zs[k]
          generalize (decide (zs[k] = -1) || isC zs zs[k]) = q at *
          generalize hzx : zs[k] = x at *
          have hlz := wrap_less (n := zs.length) (by omega)
          have hD : Below wr.heap.size wr wr.drew := Below.drew (Below.refl _ _)
          have Hyes := Lib.hid hyes
          have Hno := Lib.hid hno
          clear hyes hno hzx
          go_wp2
          clear c0 c1 hcv
          go_region_held3 (fun W => (W.cell? ⟨w.heap.size, 0, none⟩ = some (.slice a vs.length ca) ∧ W.cell? ⟨w.heap.size, 1, none⟩ = some (.slice (some ⟨bv, ov, none⟩) zs.length cb)) ∧ W.cell? ⟨bv, ov + k, none⟩ = some (.int .i64 x))
            (first | exact hS _ hD | exact hS _ (Below.drew hD))
            (first
              | (go_at_call 54; (with_reducible refine (specIn x (-1) ((zs.length : Int) - 1) _).mono ?_); rw [hin]; rintro e w1 ⟨rfl, rfl⟩))
          cases q with
          | false =>
            have hf := Lib.hid (show goodH vs zs = false by simp [goodH, Hno.out rfl])
            go_wp2
            go_ret
            rw [hf.out]
            exact ⟨rfl, hBr.trans (hD.mono hBr.size)⟩
          | true =>
            have hy := Lib.hid (Hyes.out rfl)
            go_wp2
            go_roundw
            case rel => exact ⟨k + 1, by omega, by go_num, hy.out, hb.trans (hD.mono hb.size)⟩
            case measure => simp [intOf]; omega
        · have hk' : k = zs.length := by omega
          have hgz : goodB zs zs = true := by have := Hall.out; rwa [hk', List.take_length] at this
          have hf := Lib.hid (show goodH vs zs = true by simp [goodH, hgv, hgz])
          clear hk'
          go_wp2
          go_ret
          rw [hf.out]
          exact ⟨rfl, hBr⟩
end Go.Proofs.YtpmmjaceehlpiaaDoor
/-
  The model: no way round, new numbers, leak, the canonical heap, what a heap is.
-/
namespace Go.Proofs.YtpmmjaceehlpiaaDoor
open Go Go.RowKit Go.Sort

set_option maxRecDepth 100000 in
set_option maxHeartbeats 1600000 in
theorem specAcyclic (a b : Option Addr) (ca cb : Nat) (vs zs : List Int) (w : World) (hz : zs.length ≤ 1048576) (h : HeapAt w a b vs zs) (hg : goodB zs zs = true) :
    Calls Tryd.prog 56 #[heV a vs.length ca b zs.length cb] w (GaveX (.bool (acyc zs)) w) := by
  go_enter Tryd.func56, Tryd.ntmps56
  go_wp2
  obtain ⟨W0, hW0, hb0, hs0, hA0⟩ := one_box2 w (.slice a vs.length ca) (.slice b zs.length cb) 29
  rw [hW0]
  clear hW0
  go_loopw [3] (fun i wr => ∃ k : Nat, k ≤ zs.length ∧ i = .int .i64 k ∧ (upTo k).all (acycAt zs) = true ∧ Below W0.heap.size W0 wr) (fun i _ => zs.length - (intOf i).toNat)
  case atStart => exact ⟨0, Nat.zero_le _, rfl, rfl, Below.refl _ _⟩
  case round =>
    obtain ⟨k, hk, rfl, hall, hb⟩ := hrel
    have hBr := hb0.trans (hb.mono hb0.size)
    obtain ⟨c0, c1⟩ := hA0.keep hs0 hb
    have hsr : w.heap.size < wr.heap.size := Nat.lt_of_lt_of_le hs0 hb.size
    have Hall := Lib.hid hall
    clear hall
    by_cases hlt : k < zs.length
    · go_wp2_with fail
      refine (specFollowed a b vs.length ca cb zs (k : Int) _ hz (h.below hBr (Nat.le_refl _)).z).mono ?_
      rintro e w2 ⟨ag, cg, rfl, hcg, hg2, hb2⟩
      rw [intVals_length] at *
      obtain ⟨hl, hcell⟩ := followed_here hg hlt
      have hac := acycAt_of hl
      obtain ⟨j, hj, hjz⟩ := isC_nat hcell
      rw [hj, nextC_at hjz] at hac
      obtain ⟨gb, go, rfl, hgb, hgc⟩ := Row.owned hg2 _ _ (intVals_at _ _ hl)
      rw [hj] at hgc
      have hB2 := hb.trans (hb2.mono hb.size)
      obtain ⟨bz, oz, rfl, hbz, hcz⟩ := (h.below (hb0.trans (hB2.mono hb0.size)) (Nat.le_refl _)).z j _ (intVals_at zs j hjz)
      obtain ⟨d0, d1⟩ := hA0.keep hs0 hB2
      have hlen : 1 ≤ (followed zs (k : Int)).length := by omega
      have hlm : (followed zs (k : Int)).length ≤ 1048576 := Nat.le_trans (followed_ok zs (k : Int)).len hz
      clear hg2 hcell hj hl c0 c1
      generalize (followed zs (k : Int)).length = n at *
      have hn1 : ((n : Int) - 1) = ((n - 1 : Nat) : Int) := by omega
      have hn0 : decide (n = 0) = false := decide_eq_false (by omega)
      have hn2 : ((n : Int) == 0) = false := by simp; omega
      have hn3 : ¬ n = 0 := by omega
      by_cases hx : zs[j] = -1
      · have hxb : (zs[j] != -1) = false := by simpa using hx
        rw [decide_eq_true hx] at hac
        have Hn := Lib.hid (acyc_next Hall.out hac)
        clear hac hx
        go_wp2
        go_quiet (fail)
        go_wp2
        go_roundw
        case rel => exact ⟨k + 1, by omega, by go_num, Hn.out, below_draws hB2 _⟩
        case measure => simp [intOf]; omega
      · have hxb : (zs[j] != -1) = true := by simpa using hx
        rw [decide_eq_false hx] at hac
        have Hn := Lib.hid (acyc_bad hlt hac)
        clear hac hx
        go_wp2
        go_quiet (fail)
        go_wp2
        go_ret
        exact ⟨by rw [Hn.out]; rfl, below_draws (hb0.trans (hB2.mono hb0.size)) _⟩
    · have hk' : k = zs.length := by omega
      have ht : acyc zs = true := by have := Hall.out; rw [hk'] at this; exact this
      have Ht := Lib.hid ht
      clear ht hk'
      go_wp2
      go_ret
      exact ⟨by rw [Ht.out]; rfl, hBr⟩

theorem specNew (a : Option Addr) (cap : Nat) (o : List Int) (c : Int) (w : World) (hlen : o.length ≤ 1048576) (hrow : Row w w.heap.size a (intVals o)) :
    Calls Tryd.prog 90 #[.slice a o.length cap, .int .i64 c] w (GaveX (.int .i64 (num o c)) w) := by
  have hpl := posFrom_length c o 0
  have hnum : num o c = (posFrom c 0 o).headD (-1) := rfl
  have Hnum := Lib.hid hnum
  clear hnum
  go_enter Tryd.func90, Tryd.ntmps90
  go_wp2_with fail
  refine (specPositions a cap o c _ hlen hrow).mono ?_
  rintro e w1 ⟨ag, cg, rfl, hcg, hg, hb1⟩
  rw [intVals_length] at *
  generalize posFrom c 0 o = P at *
  cases P with
  | nil =>
    have Hn := Lib.hid (show num o c = -1 from Hnum.out)
    go_wp2
    go_ret
    exact ⟨by rw [Hn.out]; rfl, hb1⟩
  | cons x xs =>
    have Hn := Lib.hid (show num o c = x from Hnum.out)
    obtain ⟨gb, go, rfl, hgb, hgc⟩ := Row.owned hg 0 _ rfl
    rw [Nat.add_zero] at hgc
    have h0 : ¬ (((x :: xs).length : Nat) : Int) = 0 := by simp; omega
    have h1 : ((((x :: xs).length : Nat) : Int) == 0) = false := by simpa using h0
    clear hg hcg hpl
    go_wp2
    go_ret
    exact ⟨by rw [Hn.out]; rfl, hb1⟩

set_option maxRecDepth 100000 in
set_option maxHeartbeats 1600000 in
theorem specHasLeak (a b : Option Addr) (ca cb : Nat) (vs zs : List Int) (w : World) (hv : vs.length ≤ 1048576) (hz : zs.length ≤ 1048576) (h : HeapAt w a b vs zs) :
    Calls Tryd.prog 50 #[heV a vs.length ca b zs.length cb] w (GaveX (.bool (leakB vs zs)) w) := by
  go_enter Tryd.func50, Tryd.ntmps50
  go_wp2_with fail
  obtain ⟨W0, hW0, hb0, hs0, hA0⟩ := one_box2 w (.slice a vs.length ca) (.slice b zs.length cb) 29
  rw [hW0]
  clear hW0
  have hS : ∀ W, Below W0.heap.size W0 W → W.cell? ⟨w.heap.size, 0, none⟩ = some (.slice a vs.length ca) ∧ W.cell? ⟨w.heap.size, 1, none⟩ = some (.slice b zs.length cb) := fun W hb => hA0.keep hs0 hb
  have hat : ∀ W, Below W0.heap.size W0 W → HeapAt W a b vs zs := fun W hb => h.below (hb0.trans (hb.mono hb0.size)) (Nat.le_refl _)
  have hD : Below W0.heap.size W0 W0.drew := Below.drew (Below.refl _ _)
  have hl := Lib.hid (show leakB vs zs = decide ((orderS zs [] vs).length < zs.length) from rfl)
  clear hA0
  go_region_held3 (fun W => W.cell? ⟨w.heap.size, 0, none⟩ = some (.slice a vs.length ca) ∧ W.cell? ⟨w.heap.size, 1, none⟩ = some (.slice b zs.length cb))
    (first | exact hS _ hD | exact hS _ (Below.drew hD) | exact hS _ H1 | exact hS _ (Below.drew H1))
    (first
      | (go_at_call 57; (with_reducible refine (specOrder a b ca cb vs zs _ hv hz (hat _ hD)).mono ?_); rintro e w1 ⟨ag, cg, rfl, hcg, hg, hb1⟩; have H1 := hD.trans (hb1.mono hD.size); rw [intVals_length] at *))
  go_wp2
  go_ret
  rw [hl.out]
  exact ⟨rfl, hb0.trans (H1.mono hb0.size)⟩
end Go.Proofs.YtpmmjaceehlpiaaDoor
/-
  The model's test whether a heap is one.
-/
namespace Go.Proofs.YtpmmjaceehlpiaaDoor
open Go Go.RowKit

theorem upTo_take {o : List Int} {k : Nat} (h : k < o.length) (ha : o.take k = upTo k) (he : o[k] = (k : Int)) : o.take (k + 1) = upTo (k + 1) := by
  rw [take_next o k h, ha, he, upTo_succ]
theorem upTo_ne {o : List Int} {n k : Nat} (h : k < o.length) (he : o[k] ≠ (k : Int)) : ¬ o = upTo n := fun e => by
  subst e
  exact he (upTo_at (by rw [upTo_length] at h; exact h) h)

set_option maxRecDepth 100000 in
set_option maxHeartbeats 1600000 in
theorem specIsHeap (n : Int) (a b : Option Addr) (ca cb : Nat) (vs zs : List Int) (w : World) (hv : vs.length ≤ maxLen) (hz : zs.length ≤ maxLen) (h : HeapAt w a b vs zs) :
    Calls Tryd.prog 15 #[.int .i64 n, heV a vs.length ca b zs.length cb] w (GaveX (.bool (heapB n vs zs)) w) := by
  have hv' := hv
  have hz' := hz
  unfold maxLen at hv' hz'
  have hat : ∀ W, Below w.heap.size w W → HeapAt W a b vs zs := fun W hb => h.below hb (Nat.le_refl _)
  have HAT := Lib.hid hat
  clear hat h
  have hb00 : ∀ t, Below w.heap.size w (w.alloc (.cells #[.slice a vs.length ca, .slice b zs.length cb] t)) := fun t => (Below.refl _ _).alloc (Nat.le_refl _) _
  by_cases h1 : 1 ≤ n ∧ n ≤ 4
  · have hq : (decide (1 ≤ n) && decide (n ≤ 4)) = true := by simp [h1]
    by_cases h3 : (vs.length : Int) = n
    · subst h3
      by_cases h4 : 6 < zs.length
      · have hf := Lib.hid (heapB_no (n := (vs.length : Int)) (vs := vs) (zs := zs) (by omega))
        have q4 : decide ((6 : Int) < (zs.length : Int)) = true := decide_eq_true (by omega)
        go_enter Tryd.func15, Tryd.ntmps15
        go_wp2_with fail
        refine (specIn (vs.length : Int) 1 4 _).mono ?_
        rw [hq]
        rintro e w1 ⟨rfl, rfl⟩
        go_wp2
        go_ret
        rw [hf.out]
        exact ⟨rfl, hb00 _⟩
      · have q4 : decide ((6 : Int) < (zs.length : Int)) = false := decide_eq_false (by omega)
        have hok : 1 ≤ (vs.length : Int) ∧ (vs.length : Int) ≤ 4 ∧ (vs.length : Int) = (vs.length : Int) ∧ zs.length ≤ 6 := ⟨h1.1, h1.2, rfl, by omega⟩
        have HOK := Lib.hid hok
        have hl1 : vs.length ≤ 1048576 := by omega
        have hl2 : zs.length ≤ 1048576 := by omega
        clear hok
        go_enter Tryd.func15, Tryd.ntmps15
        go_wp2_with fail
        obtain ⟨W0, hW0, hb0, hs0, hA0⟩ := one_box2 w (.slice a vs.length ca) (.slice b zs.length cb) 29
        rw [hW0]
        clear hW0
        have hS : ∀ W, Below W0.heap.size W0 W → Box2 W w.heap.size (.slice a vs.length ca) (.slice b zs.length cb) ∧ Below w.heap.size w W := fun W hb => ⟨hA0.keep hs0 hb, hb0.trans (hb.mono hb0.size)⟩
        obtain ⟨c0, c1⟩ := hA0
        refine (specIn (vs.length : Int) 1 4 _).mono ?_
        rw [hq]
        rintro e w1 ⟨rfl, rfl⟩
        go_wp2_with fail
        refine (specCells a b ca cb vs zs _ hv hz (HAT.out _ hb0)).mono ?_
        rintro e w2 ⟨rfl, hb2⟩
        clear c0 c1
        obtain ⟨⟨c0, c1⟩, hB2⟩ := hS _ hb2
        cases hg : goodH vs zs with
        | false =>
          have hf := Lib.hid (heapB_bad (n := (vs.length : Int)) hg)
          go_wp2
          go_ret
          rw [hf.out]
          exact ⟨rfl, hB2⟩
        | true =>
          have hgz := (goodH_parts hg).2
          go_wp2_with fail
          refine (specAcyclic a b ca cb vs zs _ hl2 (HAT.out _ hB2) hgz).mono ?_
          rintro e w3 ⟨rfl, hb3⟩
          have hb3 := hb2.trans (hb3.mono hb2.size)
          clear c0 c1
          obtain ⟨⟨c0, c1⟩, hB3⟩ := hS _ hb3
          cases hac : acyc zs with
          | false =>
            have hf := Lib.hid (heapB_ring (n := (vs.length : Int)) (vs := vs) hac)
            go_wp2
            go_ret
            rw [hf.out]
            exact ⟨rfl, hB3⟩
          | true =>
            have hok := HOK.out
            have hf := Lib.hid (heapB_yes (n := (vs.length : Int)) ⟨h1.1, h1.2, rfl, by omega⟩ hg hac)
            have ho : orderS zs [] vs = order vs zs := orderS_good hgz
            have hol := (order_end vs zs).len
            go_wp2_with fail
            refine (specOrder a b ca cb vs zs _ hl1 hl2 (HAT.out _ hB3)).mono ?_
            rw [ho]
            rintro e w4 ⟨oa, oc, rfl, hoc, hor, hb4⟩
            rw [intVals_length] at *
            have hR := Row.owned hor
            have hb4' := hb3.trans (hb4.mono hb3.size)
            clear c0 c1 hok hor
            obtain ⟨⟨c0, c1⟩, hB4⟩ := hS _ hb4'
            clear hb2 hb3 hb4 hb4' hS hB2 hB3 q4 h4 hq h1 ho
            generalize hO : order vs zs = O at *
            go_wp2
            go_loop [6] (fun i => ∃ k : Nat, k ≤ O.length ∧ i = .int .i64 k ∧ O.take k = upTo k) (fun i => O.length - (intOf i).toNat)
            case atStart => exact ⟨0, Nat.zero_le _, rfl, rfl⟩
            case round =>
              obtain ⟨k, hk, rfl, hall⟩ := hrel
              have Hall := Lib.hid hall
              clear hall
              by_cases hlt : k < O.length
              · obtain ⟨bo, oo, rfl, hbo, hco⟩ := hR k _ (intVals_at O k hlt)
                by_cases he : O[k] = (k : Int)
                · have heb : (O[k] != (k : Int)) = false := by simpa using he
                  have Hn := Lib.hid (upTo_take hlt Hall.out he)
                  clear he
                  go_wp2
                  go_round
                  case rel => exact ⟨k + 1, by omega, by go_num, Hn.out⟩
                  case measure => simp [intOf]; omega
                · have heb : (O[k] != (k : Int)) = true := by simpa using he
                  have Hn := Lib.hid (upTo_ne (n := zs.length) hlt he)
                  clear he
                  go_wp2
                  go_ret
                  exact ⟨by rw [hf.out, decide_eq_false Hn.out]; rfl, hB4⟩
              · have hk' : k = O.length := by omega
                have hO2 : O = upTo O.length := by have := Hall.out; rw [hk', List.take_length] at this; exact this
                have hlen : decide (O = upTo zs.length) = ((O.length : Int) == (zs.length : Int)) := by
                  by_cases e : O.length = zs.length
                  · rw [e] at hO2
                    rw [decide_eq_true hO2]
                    simp [e]
                  · have : ¬ O = upTo zs.length := fun e' => e (by rw [e', upTo_length])
                    rw [decide_eq_false this]
                    symm
                    simp
                    omega
                have Hl := Lib.hid hlen
                clear hO2 hk' hlen Hall
                go_wp2
                go_ret
                exact ⟨by rw [hf.out, Hl.out]; rfl, hB4⟩
    · have h3b : ((vs.length : Int) != n) = true := by simpa using h3
      have hf := Lib.hid (heapB_no (n := n) (vs := vs) (zs := zs) (by omega))
      go_enter Tryd.func15, Tryd.ntmps15
      go_wp2_with fail
      refine (specIn n 1 4 _).mono ?_
      rw [hq]
      rintro e w1 ⟨rfl, rfl⟩
      go_wp2
      go_ret
      rw [hf.out]
      exact ⟨rfl, hb00 _⟩
  · have hq : (decide (1 ≤ n) && decide (n ≤ 4)) = false := by simp; omega
    have hf := Lib.hid (heapB_no (n := n) (vs := vs) (zs := zs) (by omega))
    go_enter Tryd.func15, Tryd.ntmps15
    go_wp2_with fail
    refine (specIn n 1 4 _).mono ?_
    rw [hq]
    rintro e w1 ⟨rfl, rfl⟩
    go_wp2
    go_ret
    rw [hf.out]
    exact ⟨rfl, hb00 _⟩
end Go.Proofs.YtpmmjaceehlpiaaDoor
