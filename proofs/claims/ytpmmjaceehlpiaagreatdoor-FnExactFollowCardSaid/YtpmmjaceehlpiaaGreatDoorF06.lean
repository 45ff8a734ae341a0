/-
  Several texts of one proof in one file, in the order in which they build.
-/
import Derived.Test.YtpmmjaceehlpiaaGreatDoorF01
import Derived.Test.YtpmmjaceehlpiaaGreatDoorF03
/-
  Two heaps compared, by the program and by the model: true exactly where variables and next cells are the same.
-/
namespace Go.Proofs.YtpmmjaceehlpiaaGreatDoor
open Go Go.RowKit

theorem same_next {α : Type} {xs ys : List α} {k : Nat} (h : xs.take k = ys.take k) (hx : k < xs.length) (hy : k < ys.length) (he : xs[k] = ys[k]) : xs.take (k + 1) = ys.take (k + 1) := by
  rw [take_next xs k hx, take_next ys k hy, h, he]
theorem same_all {α : Type} {xs ys : List α} {k : Nat} (h : xs.take k = ys.take k) (hx : k = xs.length) (hy : k = ys.length) : xs = ys := by
  rw [List.take_of_length_le (by omega), List.take_of_length_le (by omega)] at h
  exact h
theorem other_at {α : Type} {xs ys : List α} {k : Nat} (hx : k < xs.length) (hy : k < ys.length) (he : xs[k] ≠ ys[k]) : ¬ xs = ys := by
  intro h
  subst h
  exact he rfl

/-- It returned b, and the world is as it was, but for draws. -/
def SaidB (b : Bool) (w : World) (e : Ending) (w' : World) : Prop := ∃ n, e = .returned (.bool b) ∧ w' = w.drewN n

set_option maxHeartbeats 800000 in
theorem equalInts (a b : Option Addr) (ca cb : Nat) (xs ys : List Int) (w : World) (hx : xs.length ≤ maxLen) (ha : Row w w.heap.size a (intVals xs)) (hb : Row w w.heap.size b (intVals ys)) :
    Calls Tryz.prog 110 #[.slice a xs.length ca, .slice b ys.length cb] w (SaidB (decide (xs = ys)) w) := by
  unfold maxLen at hx
  by_cases hl : xs.length = ys.length
  · go_enter Tryz.func110, Tryz.ntmps110
    go_wp2
    go_loopw [13] (fun i wr => ∃ (k n : Nat), k ≤ xs.length ∧ i = .int .i64 k ∧ xs.take k = ys.take k ∧ wr = w.drewN n) (fun i _ => xs.length - (intOf i).toNat)
    case atStart => exact ⟨0, 0, Nat.zero_le _, rfl, rfl, rfl⟩
    case round =>
      obtain ⟨k, n, hk, rfl, hsame, rfl⟩ := hrel
      by_cases hlt : k < xs.length
      · have hlt' : k < ys.length := by omega
        obtain ⟨ba, oa, rfl, _, hca⟩ := ha k (.int .i64 xs[k]) (intVals_at xs k hlt)
        obtain ⟨bb, ob, rfl, _, hcb⟩ := hb k (.int .i64 ys[k]) (intVals_at ys k hlt')
        have Hs := Lib.hid hsame
        clear hsame
        by_cases he : xs[k] = ys[k]
        · have hd : (xs[k] != ys[k]) = false := by simpa using he
          go_wp2
          go_quiet (fail)
          go_wp2
          go_roundw
          case rel => exact ⟨k + 1, _, by omega, by go_num, same_next Hs.out hlt hlt' he, rfl⟩
          case measure => simp [intOf]; omega
        · have hd : (xs[k] != ys[k]) = true := by simpa using he
          have Hne := Lib.hid (other_at hlt hlt' he)
          go_wp2
          go_quiet (fail)
          go_wp2
          go_ret
          exact ⟨_, by rw [decide_eq_false Hne.out]; rfl, World.drewN_drewN ..⟩
      · have Hs := Lib.hid (same_all hsame (by omega) (by omega))
        clear hsame
        go_wp2
        go_ret
        exact ⟨_, by rw [decide_eq_true Hs.out]; rfl, rfl⟩
  · have hne : ¬ xs = ys := fun h => hl (by rw [h])
    have Hne := Lib.hid hne
    clear hne
    go_enter Tryz.func110, Tryz.ntmps110
    go_wp2
    go_ret
    exact ⟨0, by rw [decide_eq_false Hne.out]; rfl, rfl⟩

set_option maxHeartbeats 800000 in
theorem specSameInts (a b : Option Addr) (ca cb : Nat) (xs ys : List Int) (w : World) (hx : xs.length ≤ maxLen) (ha : Row w w.heap.size a (intVals xs)) (hb : Row w w.heap.size b (intVals ys)) :
    Calls Tryz.prog 113 #[.slice a xs.length ca, .slice b ys.length cb] w (SaidB (decide (xs = ys)) w) := by
  unfold maxLen at hx
  by_cases hl : xs.length = ys.length
  · go_enter Tryz.func113, Tryz.ntmps113
    go_wp2
    go_loopw [5] (fun i wr => ∃ (k n : Nat), k ≤ xs.length ∧ i = .int .i64 k ∧ xs.take k = ys.take k ∧ wr = w.drewN n) (fun i _ => xs.length - (intOf i).toNat)
    case atStart => exact ⟨0, 0, Nat.zero_le _, rfl, rfl, rfl⟩
    case round =>
      obtain ⟨k, n, hk, rfl, hsame, rfl⟩ := hrel
      by_cases hlt : k < xs.length
      · have hlt' : k < ys.length := by omega
        obtain ⟨ba, oa, rfl, _, hca⟩ := ha k (.int .i64 xs[k]) (intVals_at xs k hlt)
        obtain ⟨bb, ob, rfl, _, hcb⟩ := hb k (.int .i64 ys[k]) (intVals_at ys k hlt')
        have Hs := Lib.hid hsame
        clear hsame
        by_cases he : xs[k] = ys[k]
        · have hd : (xs[k] != ys[k]) = false := by simpa using he
          go_wp2
          go_quiet (fail)
          go_wp2
          go_roundw
          case rel => exact ⟨k + 1, _, by omega, by go_num, same_next Hs.out hlt hlt' he, rfl⟩
          case measure => simp [intOf]; omega
        · have hd : (xs[k] != ys[k]) = true := by simpa using he
          have Hne := Lib.hid (other_at hlt hlt' he)
          go_wp2
          go_quiet (fail)
          go_wp2
          go_ret
          exact ⟨_, by rw [decide_eq_false Hne.out]; rfl, World.drewN_drewN ..⟩
      · have Hs := Lib.hid (same_all hsame (by omega) (by omega))
        clear hsame
        go_wp2
        go_ret
        exact ⟨_, by rw [decide_eq_true Hs.out]; rfl, rfl⟩
  · have hne : ¬ xs = ys := fun h => hl (by rw [h])
    have Hne := Lib.hid hne
    clear hne
    go_enter Tryz.func113, Tryz.ntmps113
    go_wp2
    go_ret
    exact ⟨0, by rw [decide_eq_false Hne.out]; rfl, rfl⟩

def sameH (vs zs vs' zs' : List Int) : Bool := decide (vs = vs') && decide (zs = zs')
set_option maxHeartbeats 800000 in
theorem implEqualHeap (a b c d : Option Addr) (ca cb cc cd : Nat) (vs zs vs' zs' : List Int) (w : World) (h1 : vs.length ≤ maxLen) (h2 : zs.length ≤ maxLen) (h : HeapAt w a b vs zs) (h' : HeapAt w c d vs' zs') :
    Calls Tryz.prog 60 #[heV a vs.length ca b zs.length cb, heV c vs'.length cc d zs'.length cd] w (GaveX (.bool (sameH vs zs vs' zs')) w) := by
  have key : ∀ W, Below w.heap.size w W → HeapAt W a b vs zs ∧ HeapAt W c d vs' zs' := fun W hb => ⟨h.below hb (Nat.le_refl _), h'.below hb (Nat.le_refl _)⟩
  go_enter Tryz.func60, Tryz.ntmps60
  go_wp2_with fail
  obtain ⟨W0, hW0, hb0, hs0, ⟨c0, c1⟩, ⟨c2, c3⟩⟩ := two_box2 w (.slice a vs.length ca) (.slice b zs.length cb) (.slice c vs'.length cc) (.slice d zs'.length cd) 30 30
  rw [hW0]
  clear hW0
  refine (equalInts a c ca cc vs vs' _ h1 (key _ hb0).1.v (key _ hb0).2.v).mono ?_
  rintro e w1 ⟨d1, rfl, rfl⟩
  have hB1 : Below w.heap.size w (W0.drewN d1) := below_draws hb0 _
  cases hq : decide (vs = vs') with
  | false =>
    go_wp2
    go_ret
    exact ⟨by rw [sameH, hq]; rfl, hB1⟩
  | true =>
    go_wp2_with fail
    refine (equalInts b d cb cd zs zs' _ h2 (key _ hB1).1.z (key _ hB1).2.z).mono ?_
    rintro e w2 ⟨d2, rfl, rfl⟩
    go_wp2
    go_ret
    exact ⟨by rw [sameH, hq]; rfl, below_draws hb0 _⟩
set_option maxHeartbeats 800000 in
theorem specEqualHeap (a b c d : Option Addr) (ca cb cc cd : Nat) (vs zs vs' zs' : List Int) (w : World) (h1 : vs.length ≤ maxLen) (h2 : zs.length ≤ maxLen) (h : HeapAt w a b vs zs) (h' : HeapAt w c d vs' zs') :
    Calls Tryz.prog 68 #[heV a vs.length ca b zs.length cb, heV c vs'.length cc d zs'.length cd] w (GaveX (.bool (sameH vs zs vs' zs')) w) := by
  have key : ∀ W, Below w.heap.size w W → HeapAt W a b vs zs ∧ HeapAt W c d vs' zs' := fun W hb => ⟨h.below hb (Nat.le_refl _), h'.below hb (Nat.le_refl _)⟩
  go_enter Tryz.func68, Tryz.ntmps68
  go_wp2_with fail
  obtain ⟨W0, hW0, hb0, hs0, ⟨c0, c1⟩, ⟨c2, c3⟩⟩ := two_box2 w (.slice a vs.length ca) (.slice b zs.length cb) (.slice c vs'.length cc) (.slice d zs'.length cd) 30 30
  rw [hW0]
  clear hW0
  refine (specSameInts a c ca cc vs vs' _ h1 (key _ hb0).1.v (key _ hb0).2.v).mono ?_
  rintro e w1 ⟨d1, rfl, rfl⟩
  have hB1 : Below w.heap.size w (W0.drewN d1) := below_draws hb0 _
  cases hq : decide (vs = vs') with
  | false =>
    go_wp2
    go_ret
    exact ⟨by rw [sameH, hq]; rfl, hB1⟩
  | true =>
    go_wp2_with fail
    refine (specSameInts b d cb cd zs zs' _ h2 (key _ hB1).1.z (key _ hB1).2.z).mono ?_
    rintro e w2 ⟨d2, rfl, rfl⟩
    go_wp2
    go_ret
    exact ⟨by rw [sameH, hq]; rfl, below_draws hb0 _⟩
end Go.Proofs.YtpmmjaceehlpiaaGreatDoor
/-
  The program's test whether a heap is one.
-/
namespace Go.Proofs.YtpmmjaceehlpiaaGreatDoor
open Go Go.RowKit Go.Maps

theorem heapB_no {n : Int} {vs zs : List Int} (h : ¬ (1 ≤ n ∧ n ≤ 4 ∧ (vs.length : Int) = n ∧ zs.length ≤ 6)) : heapB n vs zs = false := by simp [heapB, h]
theorem heapB_bad {n : Int} {vs zs : List Int} (h : goodH vs zs = false) : heapB n vs zs = false := by simp [heapB, h]
theorem heapB_ring {n : Int} {vs zs : List Int} (h : acyc zs = false) : heapB n vs zs = false := by simp [heapB, h]
theorem heapB_yes {n : Int} {vs zs : List Int} (h : 1 ≤ n ∧ n ≤ 4 ∧ (vs.length : Int) = n ∧ zs.length ≤ 6) (hg : goodH vs zs = true) (ha : acyc zs = true) : heapB n vs zs = decide (order vs zs = upTo zs.length) := by simp [heapB, h, hg, ha]

set_option maxRecDepth 100000 in
set_option maxHeartbeats 1600000 in
theorem implIsHeap (n : Int) (a b : Option Addr) (ca cb : Nat) (vs zs : List Int) (w : World) (hv : vs.length ≤ maxLen) (hz : zs.length ≤ maxLen) (h : HeapAt w a b vs zs) :
    Calls Tryz.prog 51 #[.int .i64 n, heV a vs.length ca b zs.length cb] w (GaveX (.bool (heapB n vs zs)) w) := by
  have hv' := hv
  have hz' := hz
  unfold maxLen at hv' hz'
  have hat : ∀ W, Below w.heap.size w W → HeapAt W a b vs zs := fun W hb => h.below hb (Nat.le_refl _)
  have HAT := Lib.hid hat
  clear hat h
  by_cases h1 : n < 1
  · have hf := Lib.hid (heapB_no (n := n) (vs := vs) (zs := zs) (by omega))
    go_enter Tryz.func51, Tryz.ntmps51
    go_wp2
    go_ret
    rw [hf.out]
    exact ⟨rfl, (Below.refl _ _).alloc (Nat.le_refl _) _⟩
  · by_cases h2 : 4 < n
    · have hf := Lib.hid (heapB_no (n := n) (vs := vs) (zs := zs) (by omega))
      go_enter Tryz.func51, Tryz.ntmps51
      go_wp2
      go_ret
      rw [hf.out]
      exact ⟨rfl, (Below.refl _ _).alloc (Nat.le_refl _) _⟩
    · by_cases h3 : (vs.length : Int) = n
      · subst h3
        by_cases h4 : 6 < zs.length
        · have hf := Lib.hid (heapB_no (n := (vs.length : Int)) (vs := vs) (zs := zs) (by omega))
          go_enter Tryz.func51, Tryz.ntmps51
          go_wp2
          go_ret
          rw [hf.out]
          exact ⟨rfl, (Below.refl _ _).alloc (Nat.le_refl _) _⟩
        · have q1 : decide ((vs.length : Int) < 1) = false := decide_eq_false h1
          have q2 : decide (4 < (vs.length : Int)) = false := decide_eq_false h2
          have q4 : decide ((6 : Int) < (zs.length : Int)) = false := decide_eq_false (by omega)
          have hok : 1 ≤ (vs.length : Int) ∧ (vs.length : Int) ≤ 4 ∧ (vs.length : Int) = (vs.length : Int) ∧ zs.length ≤ 6 := ⟨by omega, by omega, rfl, by omega⟩
          have hl1 : vs.length ≤ 1048576 := by omega
          have hl2 : zs.length ≤ 1048576 := by omega
          go_enter Tryz.func51, Tryz.ntmps51
          go_wp2_with fail
          obtain ⟨W0, hW0, hb0, hs0, hA0⟩ := one_box2 w (.slice a vs.length ca) (.slice b zs.length cb) 30
          rw [hW0]
          clear hW0
          have hS : ∀ W, Below W0.heap.size W0 W → Box2 W w.heap.size (.slice a vs.length ca) (.slice b zs.length cb) ∧ Below w.heap.size w W := fun W hb => ⟨hA0.keep hs0 hb, hb0.trans (hb.mono hb0.size)⟩
          obtain ⟨c0, c1⟩ := hA0
          refine (implAreTargets a b a vs.length ca cb ca zs vs _ hl1 (HAT.out _ hb0).v).mono ?_
          rintro e w1 ⟨rfl, hb1⟩
          clear c0 c1
          obtain ⟨⟨c0, c1⟩, hB1⟩ := hS _ hb1
          cases hgv : goodB zs vs with
          | false =>
            have hf := Lib.hid (heapB_bad (n := (vs.length : Int)) (show goodH vs zs = false by simp [goodH, hgv]))
            go_wp2
            go_ret
            rw [hf.out]
            exact ⟨rfl, hB1⟩
          | true =>
            go_wp2_with fail
            refine (implAreTargets a b b vs.length ca cb cb zs zs _ hl2 (HAT.out _ hB1).z).mono ?_
            rintro e w2 ⟨rfl, hb2⟩
            have hb2 := hb1.trans (hb2.mono hb1.size)
            clear c0 c1
            obtain ⟨⟨c0, c1⟩, hB2⟩ := hS _ hb2
            cases hgz : goodB zs zs with
            | false =>
              have hf := Lib.hid (heapB_bad (n := (vs.length : Int)) (show goodH vs zs = false by simp [goodH, hgz]))
              go_wp2
              go_ret
              rw [hf.out]
              exact ⟨rfl, hB2⟩
            | true =>
              have hg : goodH vs zs = true := by simp [goodH, hgv, hgz]
              go_wp2_with fail
              refine (implHasCycle a b ca cb vs zs _ hl2 (HAT.out _ hB2) hgz).mono ?_
              rintro e w3 ⟨rfl, hb3⟩
              have hb3 := hb2.trans (hb3.mono hb2.size)
              clear c0 c1
              obtain ⟨⟨c0, c1⟩, hB3⟩ := hS _ hb3
              cases hac : acyc zs with
              | false =>
                have hf := Lib.hid (heapB_ring (n := (vs.length : Int)) (vs := vs) hac)
                go_wp2
                go_ret
                rw [hf.out]
                exact ⟨rfl, hB3⟩
              | true =>
                have hf := Lib.hid ((heapB_yes ⟨hok.1, hok.2.1, rfl, hok.2.2.2⟩ hg hac).trans (canon_same hg).symm)
                have hcv : (canonVs vs zs).length ≤ 4 := by simp only [canonVs, hg, if_true, canonV, List.length_map]; omega
                have hcn : (canonNs vs zs).length ≤ 6 := by have := (order_end vs zs).len; simp only [canonNs, hg, if_true, canonN, List.length_map]; omega
                have hS3 : ∀ W, Below w3.heap.size w3 W → (W.cell? ⟨w.heap.size, 0, none⟩ = some (.slice a vs.length ca) ∧ W.cell? ⟨w.heap.size, 1, none⟩ = some (.slice b zs.length cb)) ∧ Below w.heap.size w W := fun W hb => ⟨(hS _ (hb3.trans (hb.mono hb3.size))).1, hB3.trans (hb.mono hB3.size)⟩
                have hD : Below w3.heap.size w3 w3.drew := Below.drew (Below.refl _ _)
                clear c0 c1 h1 h2 h4 hok q1 q2 q4 hb1 hb2 hb3 hS
                go_wp2
                go_region_held3 (fun W => W.cell? ⟨w.heap.size, 0, none⟩ = some (.slice a vs.length ca) ∧ W.cell? ⟨w.heap.size, 1, none⟩ = some (.slice b zs.length cb))
                  (first | exact (hS3 _ hD).1 | exact (hS3 _ (Below.drew hD)).1 | exact (hS3 _ H4).1 | exact (hS3 _ H5).1)
                  (first
                    | (go_at_call 96; (with_reducible refine (implCanonHeap a b ca cb vs zs _ hl1 hl2 (HAT.out _ (hS3 _ hD).2)).mono ?_); rintro e w4 ⟨oa, oca, ob, ocb, rfl, hin, hb4⟩; have H4 := hD.trans (hb4.mono hD.size))
                    | (go_at_call 60; (with_reducible refine (implEqualHeap a b oa ob ca cb oca ocb vs zs (canonVs vs zs) (canonNs vs zs) _ hv hz (HAT.out _ (hS3 _ H4).2) hin.rows).mono ?_); rintro e w5 ⟨rfl, hb5⟩; have H5 := H4.trans (hb5.mono H4.size)))
                go_wp2
                go_ret
                rw [hf.out]
                exact ⟨rfl, (hS3 _ H5).2⟩
      · have h3b : ((vs.length : Int) != n) = true := by simpa using h3
        have hf := Lib.hid (heapB_no (n := n) (vs := vs) (zs := zs) (by omega))
        go_enter Tryz.func51, Tryz.ntmps51
        go_wp2
        go_ret
        rw [hf.out]
        exact ⟨rfl, (Below.refl _ _).alloc (Nat.le_refl _) _⟩
end Go.Proofs.YtpmmjaceehlpiaaGreatDoor
