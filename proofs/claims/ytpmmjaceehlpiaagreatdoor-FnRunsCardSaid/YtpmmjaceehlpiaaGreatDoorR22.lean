/-
  Several texts of one proof in one file, in the order in which they build.
-/
import Derived.Deep.RegionLaw
import Derived.Deep.AppendLies
import Derived.Test.YtpmmjaceehlpiaaGreatDoorR08
import Derived.Test.YtpmmjaceehlpiaaGreatDoorR16
import Derived.Test.YtpmmjaceehlpiaaGreatDoorR12
import Derived.Test.YtpmmjaceehlpiaaGreatDoorR10
import Derived.Test.YtpmmjaceehlpiaaGreatDoorR20
import Derived.Test.YtpmmjaceehlpiaaGreatDoorR21
/-
  The draws of chapter 7: a heap, one that is bent: of what is drawn only the range is told.
-/
namespace Go.Proofs.YtpmmjaceehlpiaaGreatDoor
open Go Go.RowKit

/-- A heap, drawn. -/
def HeapDrawn (g : Nat) (w : World) (e : Ending) (w' : World) : Prop :=
  ∃ a ca b cb vs zs, e = .returned (heV a vs.length ca b zs.length cb) ∧ vs.length = 3 ∧ zs.length ≤ 5 ∧ HeapIn w.heap.size w'.heap.size w' a ca b cb (intVals vs) (intVals zs) ∧ Dg w g w'
theorem all_snoc' {P : Int → Prop} {l : List Int} {x : Int} (h : ∀ z ∈ l, P z) (hx : P x) : ∀ z ∈ l ++ [x], P z := fun z hz => by
  rcases List.mem_append.1 hz with hz | hz
  · exact h z hz
  · simp at hz; subst hz; exact hx
theorem wrap_two {z : Nat} (h : z ≤ 9223372036854775807) : IntKind.i64.wrap ((z : Int) - 2) = (z : Int) - 2 := by
  rw [IntKind.wrap_i64]; omega
theorem wrap_plus {z : Nat} (h : z ≤ 9223372036854775805) : IntKind.i64.wrap (2 + (z : Int)) = 2 + (z : Int) := by
  rw [IntKind.wrap_i64]; omega
theorem goodB_of {zs l : List Int} (h : ∀ z ∈ l, -1 ≤ z ∧ z < (zs.length : Int)) : goodB zs l = true := by
  rw [goodB, List.all_eq_true]
  intro z hz
  have := h z hz
  by_cases h1 : z = -1
  · simp [h1]
  · have : isC zs z = true := isC_iff.2 (by omega)
    simp [this]

set_option maxRecDepth 100000 in
set_option maxHeartbeats 3200000 in
theorem drawHeap (g : Nat) (w : World) (hcur : Cur w g) : Calls Tryz.prog 45 #[.pointer (some ⟨g, 0, none⟩), .int .i64 3] w (HeapDrawn g w) := by
  obtain ⟨i0, hi, hz0, hz1, hz2⟩ := info_parts intInfo
  have hg0 := hcur.lt
  go_enter Tryz.func45, Tryz.ntmps45
  go_wp2_with fail
  obtain ⟨W0, hW0, hb0, bn0, bp0⟩ := two_boxL w [.slice none 0 0, .slice none 0 0] [.slice none 0 0, .slice none 0 0] 30 30
  simp only [List.toArray] at hW0
  rw [hW0]
  clear hW0
  have D0 := (Dg.start hcur).below hb0
  refine (drawBelow g 6 _ (by omega) (by omega) D0.cur).mono ?_
  rintro e w1 ⟨x, hx, rfl, hc1, hw1⟩
  have D1 := D0.draw hc1 hw1
  have bn1 := bn0.turn (turn_drawn hw1) (.inr (by omega))
  have bp1 := bp0.turn (turn_drawn hw1) (.inr (by omega))
  clear D0 bn0 bp0 hc1 hw1 hb0
  go_wp2
  go_loopw [7] (fun i wr => ∃ (k : Nat) (v : Value) (zs : List Int), k ≤ x ∧ i = .int .i64 k ∧ zs.length = k ∧ (∀ z ∈ zs, -1 ≤ z ∧ z < (x : Int)) ∧ Dg w g wr ∧ BoxL wr w.heap.size [.slice none 0 0, .slice none 0 0] ∧ BoxL wr (w.heap.size + 1) [.slice none 0 0, v] ∧ wr.ownsRow (w.heap.size + 2) 3 1 v k (intVals zs))
    (fun i _ => x - (intOf i).toNat)
  case atStart => exact ⟨0, _, [], Nat.zero_le _, rfl, rfl, by simp, D1, bn1, bp1, World.ownsRow_nil _ _ _ _⟩
  case round =>
    clear D1 bn1 bp1
    obtain ⟨k, v, zs, hk, rfl, hzl, hzb, D, bn, bp, hown⟩ := hrel
    have HZ := Lib.hid hzb
    have HL := Lib.hid hzl
    clear hzb hzl
    by_cases hlt : k < x
    · go_wp2_with fail
      refine (drawOnce g 4 _ (by omega) (by omega) D.cur).mono ?_
      rintro e w2 ⟨fl, rfl, hc2, hw2⟩
      have D2 := D.draw hc2 hw2
      have bn2 := bn.turn (turn_drawn hw2) (.inr (by omega))
      have bp2 := bp.turn (turn_drawn hw2) (.inr (by omega))
      have ho2 := own_other hown hw2 (fun j hj e => by have := (hown.lt j hj).1; have := Option.some.inj e; omega)
      clear D bn bp hown hc2 hw2
      cases fl with
      | true =>
        go_wp2_with fail
        rw [show (k : Int) + 1 = ((k + 1 : Nat) : Int) by omega]
        refine (drawBelow g (k + 1) _ (by omega) (by omega) D2.cur).mono ?_
        rintro e w3 ⟨y, hy, rfl, hc3, hw3⟩
        have D3 := D2.draw hc3 hw3
        have bn3 := bn2.turn (turn_drawn hw3) (.inr (by omega))
        have bp3 := bp2.turn (turn_drawn hw3) (.inr (by omega))
        have ho3 := own_other ho2 hw3 (fun j hj e => by have := (ho2.lt j hj).1; have := Option.some.inj e; omega)
        clear D2 bn2 bp2 ho2 hc3 hw3
        have d3 := bp3.c 1 _ rfl
        have f3 := bp3.f
        have hps := bp3.lt
        have hsz3 := D3.grown.size
        have HO := Lib.hid ho3
        clear ho3
        go_wp2_with (first
          | (at_builtin; refine wpList_append_own_at _ rfl (.tmp 29) (.tmp 31) 28 rfl (w.heap.size + 2) 3 i0 (.int .i64 0) 1 8 Tryz.underlying28 hi hz0 hz1 hz2 rfl (by decide) _ k _ rfl (HO.out.alloc _) ⟨w3.heap.size, 0, none⟩ 1 1 [.int .i64 ((y : Int) - 1)] rfl rfl (oneCell_at _) (oneCell_int _) (by unfold maxLen; omega) (by omega) (by simp; omega) ?_; intro v5 w5 hown5 hg5 _ hloc; obtain ⟨va5, vc5, rfl, _⟩ := own_shape hown5; have t5 : Turn (w.heap.size + 2) w5.heap.size _ w5 := Turn.of_grown hg5 (fun j hj => ⟨(HO.out.lt j hj).1, by have h2 : j < w3.heap.size := (HO.out.lt j hj).2; have h1 : w3.heap.size + 1 ≤ w5.heap.size := (by have := hg5.size; simpa using this); omega⟩); have ha := (Below.refl w3.heap.size w3).alloc (Nat.le_refl _) (.cells #[.int .i64 ((y : Int) - 1)] 3); have D5 := (D3.below ha).turn t5 (by omega); have bn5 := (bn3.below ha).turn t5 (.inl (by omega)); have bp5 := (bp3.below ha).turn t5 (.inl (by omega)); have d5 := bp5.c 1 _ rfl; have f5 := bp5.f; clear d3 f3)
          | fail)
        have ts := turn_set w5 (w.heap.size + 1) 1 (.slice va5 (k + 1) vc5)
        have D6 := D5.turn ts (by omega)
        have bn6 := bn5.turn ts (.inl (by omega))
        have bp6 := bp5.set 1 (.slice va5 (k + 1) vc5)
        have ho6 := ownsRow_setCell_below hown5 (a := ⟨w.heap.size + 1, 1, none⟩) (by show w.heap.size + 1 < w.heap.size + 2; omega) (.slice va5 (k + 1) vc5)
        go_roundw
        case rel => first | exact ⟨k + 1, .slice va5 (k + 1) vc5, zs ++ [(y : Int) - 1], by omega, by go_num, by simp [HL.out], all_snoc' HZ.out (by omega), D6, bn6, bp6, by rw [intVals_snoc]; exact ho6⟩ | ((repeat apply Exists.intro); exact ⟨⟨k + 1, .slice va5 (k + 1) vc5, zs ++ [(y : Int) - 1], by omega, by go_num, by simp [HL.out], all_snoc' HZ.out (by omega), D6, bn6, bp6, by rw [intVals_snoc]; exact ho6⟩, rfl⟩)
        case measure => simp [intOf]; omega
      | false =>
        have d3 := bp2.c 1 _ rfl
        have f3 := bp2.f
        have hps := bp2.lt
        have hsz3 := D2.grown.size
        have HO := Lib.hid ho2
        clear ho2
        go_wp2_with (first
          | (at_builtin; refine wpList_append_own_at _ rfl (.tmp 29) (.tmp 31) 28 rfl (w.heap.size + 2) 3 i0 (.int .i64 0) 1 8 Tryz.underlying28 hi hz0 hz1 hz2 rfl (by decide) _ k _ rfl (HO.out.alloc _) ⟨w2.heap.size, 0, none⟩ 1 1 [.int .i64 ((k : Int) - 1)] rfl rfl (oneCell_at _) (oneCell_int _) (by unfold maxLen; omega) (by omega) (by simp; omega) ?_; intro v5 w5 hown5 hg5 _ hloc; obtain ⟨va5, vc5, rfl, _⟩ := own_shape hown5; have t5 : Turn (w.heap.size + 2) w5.heap.size _ w5 := Turn.of_grown hg5 (fun j hj => ⟨(HO.out.lt j hj).1, by have h2 : j < w2.heap.size := (HO.out.lt j hj).2; have h1 : w2.heap.size + 1 ≤ w5.heap.size := (by have := hg5.size; simpa using this); omega⟩); have ha := (Below.refl w2.heap.size w2).alloc (Nat.le_refl _) (.cells #[.int .i64 ((k : Int) - 1)] 3); have D5 := (D2.below ha).turn t5 (by omega); have bn5 := (bn2.below ha).turn t5 (.inl (by omega)); have bp5 := (bp2.below ha).turn t5 (.inl (by omega)); have d5 := bp5.c 1 _ rfl; have f5 := bp5.f; clear d3 f3)
          | fail)
        have ts := turn_set w5 (w.heap.size + 1) 1 (.slice va5 (k + 1) vc5)
        have D6 := D5.turn ts (by omega)
        have bn6 := bn5.turn ts (.inl (by omega))
        have bp6 := bp5.set 1 (.slice va5 (k + 1) vc5)
        have ho6 := ownsRow_setCell_below hown5 (a := ⟨w.heap.size + 1, 1, none⟩) (by show w.heap.size + 1 < w.heap.size + 2; omega) (.slice va5 (k + 1) vc5)
        go_roundw
        case rel => first | exact ⟨k + 1, .slice va5 (k + 1) vc5, zs ++ [(k : Int) - 1], by omega, by go_num, by simp [HL.out], all_snoc' HZ.out (by omega), D6, bn6, bp6, by rw [intVals_snoc]; exact ho6⟩ | ((repeat apply Exists.intro); exact ⟨⟨k + 1, .slice va5 (k + 1) vc5, zs ++ [(k : Int) - 1], by omega, by go_num, by simp [HL.out], all_snoc' HZ.out (by omega), D6, bn6, bp6, by rw [intVals_snoc]; exact ho6⟩, rfl⟩)
        case measure => simp [intOf]; omega
    · have hk' : k = x := by omega
      have hzl := HL.out
      have hzb := HZ.out
      subst hk'
      subst hzl
      obtain ⟨na, nc, rfl, hnc⟩ := own_shape hown
      have hn := OwnIn.of hown
      have hM : w.heap.size + 2 ≤ wr.heap.size := by have := bp.lt; omega
      clear hown HL HZ hlt
      go_wp2
      generalize hMM : wr.heap.size = M at *
      go_loopw [9] (fun i wr => ∃ (k : Nat) (v : Value) (us : List Int), k ≤ 3 ∧ i = .int .i64 k ∧ us.length = k ∧ (∀ z ∈ us, -1 ≤ z ∧ z < (zs.length : Int)) ∧ Dg w g wr ∧ BoxL wr w.heap.size [.slice none 0 0, .slice none 0 0] ∧ BoxL wr (w.heap.size + 1) [v, .slice na zs.length nc] ∧
          OwnIn (w.heap.size + 2) M wr 3 1 (.slice na zs.length nc) zs.length (intVals zs) ∧ wr.ownsRow M 3 1 v k (intVals us))
        (fun i _ => 3 - (intOf i).toNat)
      case atStart => exact ⟨0, _, [], Nat.zero_le _, rfl, rfl, by simp, D, bn, bp, hn, World.ownsRow_nil _ _ _ _⟩
      case round =>
        clear D bn bp hn hMM
        obtain ⟨k, v, us, hk, rfl, hzl, hub, D, bn, bp, hn, hown⟩ := hrel
        have HZ := Lib.hid hub
        have HL := Lib.hid hzl
        clear hub hzl
        by_cases hlt : k < 3
        · go_wp2_with fail
          rw [show (zs.length : Int) + 1 = ((zs.length + 1 : Nat) : Int) by omega]
          refine (drawBelow g (zs.length + 1) _ (by omega) (by omega) D.cur).mono ?_
          rintro e w2 ⟨y, hy, rfl, hc2, hw2⟩
          have D2 := D.draw hc2 hw2
          have bn2 := bn.turn (turn_drawn hw2) (.inr (by omega))
          have bp2 := bp.turn (turn_drawn hw2) (.inr (by omega))
          have hn2 := hn.turn (turn_drawn hw2) (.inr (by omega))
          have ho2 := own_other hown hw2 (fun j hj e => by have := (hown.lt j hj).1; have := Option.some.inj e; omega)
          clear D bn bp hn hown hc2 hw2
          by_cases hk0 : k = 0
          · subst hk0
            go_wp2_with fail
            refine (drawOnce g 2 _ (by omega) (by omega) D2.cur).mono ?_
            rintro e w3 ⟨fl, rfl, hc3, hw3⟩
            have D3 := D2.draw hc3 hw3
            have bn3 := bn2.turn (turn_drawn hw3) (.inr (by omega))
            have bp3 := bp2.turn (turn_drawn hw3) (.inr (by omega))
            have hn3 := hn2.turn (turn_drawn hw3) (.inr (by omega))
            have ho3 := own_other ho2 hw3 (fun j hj e => by have := (ho2.lt j hj).1; have := Option.some.inj e; omega)
            clear D2 bn2 bp2 hn2 ho2 hc3 hw3
            cases fl with
            | true =>
              have d3 := bp3.c 0 _ rfl
              have f3 := bp3.f
              have hps := bp3.lt
              have hsz3 := D3.grown.size
              have HO := Lib.hid ho3
              have HN := Lib.hid hn3
              have hnM := hn3.1
              clear ho3 hn3
              go_wp2_with (first
                | (at_builtin; refine wpList_append_own_at _ rfl (.tmp 53) (.tmp 55) 28 rfl M 3 i0 (.int .i64 0) 1 8 Tryz.underlying28 hi hz0 hz1 hz2 rfl (by decide) _ 0 _ rfl (HO.out.alloc _) ⟨w3.heap.size, 0, none⟩ 1 1 [.int .i64 ((zs.length : Int) - 1)] rfl rfl (oneCell_at _) (oneCell_int _) (by unfold maxLen; omega) (by omega) (by simp; omega) ?_; intro v5 w5 hown5 hg5 _ hloc; obtain ⟨va5, vc5, rfl, _⟩ := own_shape hown5; have t5 : Turn M w5.heap.size _ w5 := Turn.of_grown hg5 (fun j hj => ⟨(HO.out.lt j hj).1, by have h2 : j < w3.heap.size := (HO.out.lt j hj).2; have h1 : w3.heap.size + 1 ≤ w5.heap.size := (by have := hg5.size; simpa using this); omega⟩); have ha := (Below.refl w3.heap.size w3).alloc (Nat.le_refl _) (.cells #[.int .i64 ((zs.length : Int) - 1)] 3); have D5 := (D3.below ha).turn t5 (by omega); have bn5 := (bn3.below ha).turn t5 (.inl (by omega)); have bp5 := (bp3.below ha).turn t5 (.inl (by omega)); have n5 := (HN.out.below ha).turn t5 (.inl (Nat.le_refl _)); have d5 := bp5.c 0 _ rfl; have f5 := bp5.f; clear d3 f3)
                | fail)
              have ts := turn_set w5 (w.heap.size + 1) 0 (.slice va5 (0 + 1) vc5)
              have D6 := D5.turn ts (by omega)
              have bn6 := bn5.turn ts (.inl (by omega))
              have bp6 := bp5.set 0 (.slice va5 (0 + 1) vc5)
              have n6 := n5.turn ts (.inr (by omega))
              have ho6 := ownsRow_setCell_below hown5 (a := ⟨w.heap.size + 1, 0, none⟩) (by show w.heap.size + 1 < M; omega) (.slice va5 (0 + 1) vc5)
              go_roundw
              case rel => first | exact ⟨0 + 1, .slice va5 (0 + 1) vc5, us ++ [(zs.length : Int) - 1], by omega, by go_num, by simp [HL.out], all_snoc' HZ.out (by omega), D6, bn6, bp6, n6, by rw [intVals_snoc]; exact ho6⟩ | ((repeat apply Exists.intro); exact ⟨⟨0 + 1, .slice va5 (0 + 1) vc5, us ++ [(zs.length : Int) - 1], by omega, by go_num, by simp [HL.out], all_snoc' HZ.out (by omega), D6, bn6, bp6, n6, by rw [intVals_snoc]; exact ho6⟩, rfl⟩)
              case measure => simp [intOf]
            | false =>
              have d3 := bp3.c 0 _ rfl
              have f3 := bp3.f
              have hps := bp3.lt
              have hsz3 := D3.grown.size
              have HO := Lib.hid ho3
              have HN := Lib.hid hn3
              have hnM := hn3.1
              clear ho3 hn3
              go_wp2_with (first
                | (at_builtin; refine wpList_append_own_at _ rfl (.tmp 53) (.tmp 55) 28 rfl M 3 i0 (.int .i64 0) 1 8 Tryz.underlying28 hi hz0 hz1 hz2 rfl (by decide) _ 0 _ rfl (HO.out.alloc _) ⟨w3.heap.size, 0, none⟩ 1 1 [.int .i64 ((y : Int) - 1)] rfl rfl (oneCell_at _) (oneCell_int _) (by unfold maxLen; omega) (by omega) (by simp; omega) ?_; intro v5 w5 hown5 hg5 _ hloc; obtain ⟨va5, vc5, rfl, _⟩ := own_shape hown5; have t5 : Turn M w5.heap.size _ w5 := Turn.of_grown hg5 (fun j hj => ⟨(HO.out.lt j hj).1, by have h2 : j < w3.heap.size := (HO.out.lt j hj).2; have h1 : w3.heap.size + 1 ≤ w5.heap.size := (by have := hg5.size; simpa using this); omega⟩); have ha := (Below.refl w3.heap.size w3).alloc (Nat.le_refl _) (.cells #[.int .i64 ((y : Int) - 1)] 3); have D5 := (D3.below ha).turn t5 (by omega); have bn5 := (bn3.below ha).turn t5 (.inl (by omega)); have bp5 := (bp3.below ha).turn t5 (.inl (by omega)); have n5 := (HN.out.below ha).turn t5 (.inl (Nat.le_refl _)); have d5 := bp5.c 0 _ rfl; have f5 := bp5.f; clear d3 f3)
                | fail)
              have ts := turn_set w5 (w.heap.size + 1) 0 (.slice va5 (0 + 1) vc5)
              have D6 := D5.turn ts (by omega)
              have bn6 := bn5.turn ts (.inl (by omega))
              have bp6 := bp5.set 0 (.slice va5 (0 + 1) vc5)
              have n6 := n5.turn ts (.inr (by omega))
              have ho6 := ownsRow_setCell_below hown5 (a := ⟨w.heap.size + 1, 0, none⟩) (by show w.heap.size + 1 < M; omega) (.slice va5 (0 + 1) vc5)
              go_roundw
              case rel => first | exact ⟨0 + 1, .slice va5 (0 + 1) vc5, us ++ [(y : Int) - 1], by omega, by go_num, by simp [HL.out], all_snoc' HZ.out (by omega), D6, bn6, bp6, n6, by rw [intVals_snoc]; exact ho6⟩ | ((repeat apply Exists.intro); exact ⟨⟨0 + 1, .slice va5 (0 + 1) vc5, us ++ [(y : Int) - 1], by omega, by go_num, by simp [HL.out], all_snoc' HZ.out (by omega), D6, bn6, bp6, n6, by rw [intVals_snoc]; exact ho6⟩, rfl⟩)
              case measure => simp [intOf]
          · have hkb : ((k : Int) == 0) = false := by simp; omega
            have d3 := bp2.c 0 _ rfl
            have f3 := bp2.f
            have hps := bp2.lt
            have hsz3 := D2.grown.size
            have HO := Lib.hid ho2
            have HN := Lib.hid hn2
            have hnM := hn2.1
            clear ho2 hn2
            go_wp2_with (first
              | (at_builtin; refine wpList_append_own_at _ rfl (.tmp 53) (.tmp 55) 28 rfl M 3 i0 (.int .i64 0) 1 8 Tryz.underlying28 hi hz0 hz1 hz2 rfl (by decide) _ k _ rfl (HO.out.alloc _) ⟨w2.heap.size, 0, none⟩ 1 1 [.int .i64 ((y : Int) - 1)] rfl rfl (oneCell_at _) (oneCell_int _) (by unfold maxLen; omega) (by omega) (by simp; omega) ?_; intro v5 w5 hown5 hg5 _ hloc; obtain ⟨va5, vc5, rfl, _⟩ := own_shape hown5; have t5 : Turn M w5.heap.size _ w5 := Turn.of_grown hg5 (fun j hj => ⟨(HO.out.lt j hj).1, by have h2 : j < w2.heap.size := (HO.out.lt j hj).2; have h1 : w2.heap.size + 1 ≤ w5.heap.size := (by have := hg5.size; simpa using this); omega⟩); have ha := (Below.refl w2.heap.size w2).alloc (Nat.le_refl _) (.cells #[.int .i64 ((y : Int) - 1)] 3); have D5 := (D2.below ha).turn t5 (by omega); have bn5 := (bn2.below ha).turn t5 (.inl (by omega)); have bp5 := (bp2.below ha).turn t5 (.inl (by omega)); have n5 := (HN.out.below ha).turn t5 (.inl (Nat.le_refl _)); have d5 := bp5.c 0 _ rfl; have f5 := bp5.f; clear d3 f3)
              | fail)
            have ts := turn_set w5 (w.heap.size + 1) 0 (.slice va5 (k + 1) vc5)
            have D6 := D5.turn ts (by omega)
            have bn6 := bn5.turn ts (.inl (by omega))
            have bp6 := bp5.set 0 (.slice va5 (k + 1) vc5)
            have n6 := n5.turn ts (.inr (by omega))
            have ho6 := ownsRow_setCell_below hown5 (a := ⟨w.heap.size + 1, 0, none⟩) (by show w.heap.size + 1 < M; omega) (.slice va5 (k + 1) vc5)
            go_roundw
            case rel => first | exact ⟨k + 1, .slice va5 (k + 1) vc5, us ++ [(y : Int) - 1], by omega, by go_num, by simp [HL.out], all_snoc' HZ.out (by omega), D6, bn6, bp6, n6, by rw [intVals_snoc]; exact ho6⟩ | ((repeat apply Exists.intro); exact ⟨⟨k + 1, .slice va5 (k + 1) vc5, us ++ [(y : Int) - 1], by omega, by go_num, by simp [HL.out], all_snoc' HZ.out (by omega), D6, bn6, bp6, n6, by rw [intVals_snoc]; exact ho6⟩, rfl⟩)
            case measure => simp [intOf]; omega
        · have hk' : k = 3 := by omega
          have hul := HL.out
          have hub := HZ.out
          subst hul
          obtain ⟨va, vc, rfl, hvc⟩ := own_shape hown
          have hO := OwnIn.of hown
          have d0 := bp.c 0 _ rfl
          have d1 := bp.c 1 _ rfl
          have hg := show goodH us zs = true by rw [goodH, goodB_of hub, goodB_of hzb]; rfl
          have e1 : (canonVs us zs).length = 3 := by simp only [canonVs, hg, if_true, canonV, List.length_map]; exact hk'
          have e2 : (canonNs us zs).length ≤ 5 := by have := (order_end us zs).len; simp only [canonNs, hg, if_true, canonN, List.length_map]; omega
          have E1 := Lib.hid e1
          have E2 := Lib.hid e2
          have HK := Lib.hid hk'
          clear e1 e2 hg HL HZ hown hk'
          go_wp2_with fail
          refine (specCanonHeap va na vc nc us zs _ (by omega) (by omega) ⟨hO.row, hn.row⟩).mono ?_
          rintro e w3 ⟨pa, pca, pb, pcb, rfl, hin, hb3⟩
          have bn3 := bn.below hb3
          have r0 := bn3.c 0 _ rfl
          have r1 := bn3.c 1 _ rfl
          have rf := bn3.f
          have D3 := D.below hb3
          have hsz : w.heap.size + 1 < wr.heap.size := bp.lt
          clear d0 d1 bn bp hn hO bn3 D
          go_wp2
          refine bodyPost_ret (v := heV pa (canonVs us zs).length pca pb (canonNs us zs).length pcb) (by simp [results, Tryz.results45, go_sem, r0, r1]) rfl ?_
          have tq : Turn w.heap.size (w.heap.size + 1) w3 ((w3.setCell ⟨w.heap.size, 0, none⟩ (.slice pa (canonVs us zs).length pca)).setCell ⟨w.heap.size, 1, none⟩ (.slice pb (canonNs us zs).length pcb)) := (turn_set _ _ _ _).trans (turn_set _ _ _ _)
          refine ⟨pa, pca, pb, pcb, canonVs us zs, canonNs us zs, rfl, E1.out, E2.out, ?_, D3.turn tq (Nat.le_refl _)⟩
          exact (hin.turn tq (.inr (by omega))).mono (by omega) (by simp) (Nat.le_refl _)

/-- A heap, drawn and bent, with a number. -/
def HeapBent (g : Nat) (w : World) (e : Ending) (w' : World) : Prop :=
  ∃ n a ca b cb vs zs, e = .returned (.tuple #[.int .i64 n, heV a vs.length ca b zs.length cb]) ∧ (2 ≤ n ∧ n ≤ 4) ∧ vs.length = 3 ∧ zs.length ≤ 6 ∧ HeapIn w.heap.size w'.heap.size w' a ca b cb (intVals vs) (intVals zs) ∧ Dg w g w'
theorem heap_bent_end {w W : World} {g lo : Nat} {n : Int} {a b : Option Addr} {ca cb : Nat} {vs zs : List Int} (hn : 2 ≤ n ∧ n ≤ 4) (hv : vs.length = 3) (hz : zs.length ≤ 6) (D : Dg w g W) (hl : w.heap.size < lo) (hin : HeapIn lo W.heap.size W a ca b cb (intVals vs) (intVals zs)) (u0 u1 : Value) :
    HeapBent g w (.returned (.tuple #[.int .i64 n, heV a vs.length ca b zs.length cb])) ((W.setCell ⟨w.heap.size, 0, none⟩ u0).setCell ⟨w.heap.size, 1, none⟩ u1) := by
  have tq : Turn w.heap.size (w.heap.size + 1) W ((W.setCell ⟨w.heap.size, 0, none⟩ u0).setCell ⟨w.heap.size, 1, none⟩ u1) := (turn_set _ _ _ _).trans (turn_set _ _ _ _)
  exact ⟨n, a, ca, b, cb, vs, zs, rfl, hn, hv, hz, (hin.turn tq (.inr (by omega))).mono (by omega) (by simp) (Nat.le_refl _), D.turn tq (Nat.le_refl _)⟩
theorem HeapIn.drew {lo hi : Nat} {W : World} {a b : Option Addr} {ca cb : Nat} {vs zs : List Value} (h : HeapIn lo hi W a ca b cb vs zs) : HeapIn lo hi W.drew a ca b cb vs zs := h.below (Below.drew (Below.refl _ _))

end Go.Proofs.YtpmmjaceehlpiaaGreatDoor
/-
  The model's small heaps.
-/
namespace Go.Proofs.YtpmmjaceehlpiaaGreatDoor
open Go Go.RowKit Go.ChangeShapes Go.WideShapes Go.ChangeAt

theorem lit2_news (w : World) (u v : Value) (t : TypeId) : ∀ j x, [u, v][j]? = some x → (w.alloc (.cells #[u, v] t)).cell? ((⟨w.heap.size, 0, none⟩ : Addr).add j) = some x := by
  intro j x hj
  have := (BoxL.new w [u, v] t).c j x hj
  rw [add_plain, Nat.zero_add]
  exact this
theorem lit2_one (a : Option Addr) (n c : Nat) (b : Option Addr) (m d : Nat) : ∀ u ∈ [Value.slice a n c, Value.slice b m d], u.oneCell' = true := by
  intro u hu
  simp only [List.mem_cons, List.not_mem_nil, or_false] at hu
  rcases hu with rfl | rfl <;> rfl
/-- The heaps with these variables and one of these lists of next cells. -/
def pairsS (v : Int) (hd : List Int) (nx : List (List Int)) : List (List Int × List Int) := nx.flatMap fun z => if heapB v hd z = true then [(hd, z)] else []
def blockS (v : Nat) (n : Nat) : List (List Int × List Int) := (listsS (n + 1) v).flatMap fun hd => pairsS (v : Int) hd (listsS (n + 1) n)
def smallS (v c : Int) : List (List Int × List Int) := if (1 ≤ v ∧ v ≤ 4) ∧ (0 ≤ c ∧ c ≤ 3) then (List.range (c.toNat + 1)).flatMap (blockS v.toNat) else []
theorem flat_next {α β : Type} (f : α → List β) (l : List α) (k : Nat) (h : k < l.length) : (l.take (k + 1)).flatMap f = (l.take k).flatMap f ++ f l[k] := by
  rw [take_next l k h, List.flatMap_append]
  simp

/-- What has been collected. -/
structure OutB (w : World) (bs : List (List Int × List Int)) (v : Value) (wr : World) (hs : List Hp) (kb : Nat) : Prop where
  body : hs.map Hp.body = bs
  own : wr.ownsRow w.heap.size 30 2 v hs.length (hpVals hs)
  ins : HeapsIn w.heap.size wr hs
  off : ∀ x ∈ hs, ¬ x.has kb
  blk : v.ownBlock = some kb
theorem OutB.below {w wr wr' : World} {bs : List (List Int × List Int)} {v : Value} {hs : List Hp} {kb : Nat} (h : OutB w bs v wr hs kb) (hb : Below wr.heap.size wr wr') : OutB w bs v wr' hs kb :=
  ⟨h.body, own_keeps h.own hb, h.ins.below hb, h.off, h.blk⟩
/-- .. since w1, when it lay in block k0. -/
def OutH (w w1 : World) (k0 : Nat) (bs : List (List Int × List Int)) (v : Value) (wr : World) : Prop :=
  ∃ hs kb, OutB w bs v wr hs kb ∧ (kb = k0 ∨ w1.heap.size ≤ kb) ∧ Only (fun k => k = k0) w1 wr
theorem OutH.below {w w1 wr wr' : World} {k0 : Nat} {bs : List (List Int × List Int)} {v : Value} (h : OutH w w1 k0 bs v wr) (hb : Below wr.heap.size wr wr') : OutH w w1 k0 bs v wr' := by
  obtain ⟨hs, kb, h1, h2, h3⟩ := h
  exact ⟨hs, kb, h1.below hb, h2, h3.trans (Only.of_below hb)⟩
/-- One heap more: x is made between wr and wc; the append turns wc to w'. -/
theorem outH_next {w w1 wc w' : World} {k0 kb : Nat} {bs : List (List Int × List Int)} {v v' : Value} {hs : List Hp} {x : Hp} (h : OutB w bs v wc hs kb) (h2 : kb = k0 ∨ w1.heap.size ≤ kb) (h3 : Only (fun k => k = k0) w1 wc)
    (hx : x.In w.heap.size wc.heap.size wc) (hn : ∀ y ∈ hs, ∀ k, y.has k → ¬ x.has k) (hxk : ¬ x.has kb)
    (hown : w'.ownsRow w.heap.size 30 2 v' (hs.length + 1) (hpVals hs ++ hpCells x)) (hg : wc.grownBy w' (some kb)) (hl : v'.ownBlock = some kb ∨ ∃ k, v'.ownBlock = some k ∧ wc.heap.size ≤ k) :
    OutH w w1 k0 (bs ++ [x.body]) v' w' := by
  have hin : HeapsIn w.heap.size wc (hs ++ [x]) := h.ins.snoc hx hn
  have hoff : ∀ y ∈ hs ++ [x], ¬ y.has kb := fun y hy => by
    rcases List.mem_append.1 hy with hy | hy
    · exact h.off y hy
    · rw [List.mem_singleton.1 hy]
      exact hxk
  have hin' : HeapsIn w.heap.size w' (hs ++ [x]) := hin.same hg.size fun y hy k hk => hg.block k (hin.has_lt hy hk).2 fun e => hoff y hy ((Option.some.inj e) ▸ hk)
  have hon : Only (fun k => k = k0) w1 w' := ⟨hg.os.trans h3.os, hg.tape.trans h3.tape, hg.output.trans h3.output, Nat.le_trans h3.size hg.size, fun q hq hqn => (hg.block q (Nat.lt_of_lt_of_le hq h3.size) fun e => by
    have := Option.some.inj e
    rcases h2 with h2 | h2
    · exact hqn (by omega)
    · omega).trans (h3.block q hq hqn)⟩
  have hbody : (hs ++ [x]).map Hp.body = bs ++ [x.body] := by rw [List.map_append, h.body]; rfl
  have hown' : w'.ownsRow w.heap.size 30 2 v' (hs ++ [x]).length (hpVals (hs ++ [x])) := by
    rw [List.length_append, show hpVals (hs ++ [x]) = hpVals hs ++ hpCells x from fl_snoc hs x]
    exact hown
  rcases hl with hl | ⟨k, hl, hk⟩
  · exact ⟨hs ++ [x], kb, ⟨hbody, hown', hin', hoff, hl⟩, h2, hon⟩
  · refine ⟨hs ++ [x], k, ⟨hbody, hown', hin', fun y hy hyk => ?_, hl⟩, .inr (Nat.le_trans h3.size hk), hon⟩
    have := (hin.has_lt hy hyk).2
    omega
def GaveHeaps (bs : List (List Int × List Int)) (w : World) (e : Ending) (w' : World) : Prop :=
  ∃ (g cap : Nat) (hs : List Hp), hs.map Hp.body = bs ∧ e = .returned (.slice (some ⟨g, 0, none⟩) hs.length cap) ∧ w'.ownsRow w.heap.size 30 2 (.slice (some ⟨g, 0, none⟩) hs.length cap) hs.length (hpVals hs) ∧ HeapsIn w.heap.size w' hs ∧ (∀ x ∈ hs, ¬ x.has g) ∧ Below w.heap.size w w'
theorem gave_out {w wr : World} {bs : List (List Int × List Int)} {v : Value} {hs : List Hp} {kb : Nat} (h : OutB w bs v wr hs kb) (hb : Below w.heap.size w wr) : GaveHeaps bs w (.returned v) wr := by
  obtain ⟨g, hv⟩ : ∃ c, v = .slice (some ⟨kb, 0, none⟩) hs.length c := own_some h.own h.blk
  subst hv
  exact ⟨kb, g, hs, h.body, rfl, h.own, h.ins, h.off, hb⟩
theorem pairsS_len (v : Int) (hd : List Int) (nx : List (List Int)) : (pairsS v hd nx).length ≤ nx.length := by
  induction nx with
  | nil => simp [pairsS]
  | cons z nx ih =>
    have h1 : pairsS v hd (z :: nx) = (if heapB v hd z = true then [(hd, z)] else []) ++ pairsS v hd nx := rfl
    rw [h1, List.length_append, List.length_cons]
    split <;> simp <;> omega
theorem flat_len {α β : Type} (f : α → List β) (l : List α) (B : Nat) (h : ∀ x ∈ l, (f x).length ≤ B) : (l.flatMap f).length ≤ l.length * B := by
  induction l with
  | nil => simp
  | cons x l ih =>
    have h1 := h x List.mem_cons_self
    have h2 := ih fun y hy => h y (List.mem_cons_of_mem _ hy)
    rw [List.flatMap_cons, List.length_append, List.length_cons, Nat.add_mul, Nat.one_mul]
    omega
theorem ListsAt.mono {lo lo' : Nat} {W : World} {g : Nat} {ls : List Lp} (h : ListsAt lo W g ls) (hl : lo' ≤ lo) : ListsAt lo' W g ls := ⟨h.row, fun x hx => (h.each x hx).mono hl, Nat.le_trans hl h.lo, h.lt⟩
theorem small_len {v c n i k : Nat} (hv : v ≤ 4) (hc : c ≤ 3) (hn : n ≤ c) (hd : List Int) :
    ((List.range n).flatMap (blockS v) ++ ((listsS (n + 1) v).take i).flatMap (fun hd => pairsS (v : Int) hd (listsS (n + 1) n)) ++ pairsS (v : Int) hd ((listsS (n + 1) n).take k)).length ≤ 400000 := by
  have hb : ∀ m, m < n → (blockS v m).length ≤ 65536 := fun m hm => by
    have h1 := listsS_le (m := m + 1) (n := v) (by omega) hv
    have h2 := listsS_le (m := m + 1) (n := m) (by omega) (by omega)
    exact Nat.le_trans (flat_len _ _ 256 fun hd _ => Nat.le_trans (pairsS_len _ _ _) h2) (by omega)
  have h1 := listsS_le (m := n + 1) (n := v) (by omega) hv
  have h2 := listsS_le (m := n + 1) (n := n) (by omega) (by omega)
  have p1 := flat_len (blockS v) (List.range n) 65536 (fun m hm => hb m (List.mem_range.1 hm))
  have p2 := flat_len (fun hd => pairsS (v : Int) hd (listsS (n + 1) n)) ((listsS (n + 1) v).take i) 256 (fun hd _ => Nat.le_trans (pairsS_len _ _ _) h2)
  have p3 := pairsS_len (v : Int) hd ((listsS (n + 1) n).take k)
  rw [List.length_range] at p1
  rw [List.length_take] at p2 p3
  rw [List.length_append, List.length_append]
  have h3 : min i (listsS (n + 1) v).length * 256 ≤ 65536 := by
    have : min i (listsS (n + 1) v).length ≤ 256 := Nat.le_trans (Nat.min_le_right _ _) h1
    omega
  omega
theorem outH_start {w w1 wr : World} {k0 : Nat} {bs : List (List Int × List Int)} {v : Value} (h : OutH w w1 k0 bs v wr) : OutH w w1 k0 (bs ++ []) v wr := by simpa using h
set_option maxRecDepth 100000 in
set_option maxHeartbeats 3200000 in
theorem specSmall_good (v c : Nat) (hv : 1 ≤ v ∧ v ≤ 4) (hc : c ≤ 3) (w : World) : Calls Tryz.prog 19 #[.int .i64 (v : Int), .int .i64 (c : Int)] w (GaveHeaps ((List.range (c + 1)).flatMap (blockS v)) w) := by
  obtain ⟨i0, hi9, hz0, hz1, hz2⟩ := info_parts heapInfo
  have ho0 := World.ownsRow_made (e := 30) (size := 2) (base := w.heap.size) w #[] 0 (Nat.le_refl _) (Nat.zero_le _) rfl
  have hb0 := (Below.refl w.heap.size w).alloc (Nat.le_refl _) (.cells #[] 30)
  have hO0 : OutB w ((List.range 0).flatMap (blockS v)) (.slice (some ⟨w.heap.size, 0, none⟩) 0 0) (w.alloc (.cells #[] 30)) [] w.heap.size := ⟨rfl, ho0, HeapsIn.nil, fun x hx => by simp at hx, rfl⟩
  clear ho0
  have q1 : (decide ((1 : Int) ≤ (v : Int)) && decide ((v : Int) ≤ 4)) = true := by simp; omega
  have q2 : (decide ((0 : Int) ≤ (c : Int)) && decide ((c : Int) ≤ 3)) = true := by simp; omega
  have Q1 := Lib.hid q1
  have Q2 := Lib.hid q2
  have HO0 := Lib.hid hO0
  have HB0 := Lib.hid hb0
  clear q1 q2 hO0 hb0
  obtain ⟨big, hbig⟩ : ∃ big, (List.range (c + 1)).flatMap (blockS v) = big := ⟨_, rfl⟩
  rw [hbig]
  have HBIG := Lib.hid hbig
  clear hbig
  go_enter Tryz.func19, Tryz.ntmps19
  go_wp2_with fail
  refine (specIn (v : Int) 1 4 _).mono ?_
  rw [Q1.out]
  rintro e w1 ⟨rfl, rfl⟩
  go_wp2_with fail
  refine (specIn (c : Int) 0 3 _).mono ?_
  rw [Q2.out]
  rintro e w1 ⟨rfl, rfl⟩
  go_wp2
  go_loopw [5, 6] (fun u i wr => ∃ (n : Nat) (hs : List Hp) (kb : Nat), n ≤ c + 1 ∧ i = .int .i64 (n : Int) ∧ OutB w ((List.range n).flatMap (blockS v)) u wr hs kb ∧ Below w.heap.size w wr) (fun _ i _ => (c + 1 - (intOf i).toNat))
  case atStart => exact ⟨0, [], _, Nat.zero_le _, rfl, HO0.out, HB0.out⟩
  case round =>
    obtain ⟨n, hs, kb, hn, rfl, hO, hB⟩ := hrel
    by_cases hlt : n ≤ c
    · have hO' := hO
      have hkl : kb < wr.heap.size := (hO.own.lt kb hO.blk).2
      have HO := Lib.hid hO
      have HB := Lib.hid hB
      clear hO hO' hB
      go_wp2_with fail
      refine (specLists (n + 1) (by omega) ((n : Int) - 1) (by omega) v hv.2 _).mono ?_
      rintro e w1 ⟨g1, cap1, ls1, hb1, rfl, hat1, hB1⟩
      have HAT1 := Lib.hid hat1
      have HB1 := Lib.hid hB1
      have HL1 := Lib.hid hb1
      clear hat1 hB1 hb1
      go_wp2_with fail
      refine (specLists (n + 1) (by omega) ((n : Int) - 1) (by omega) n (by omega) _).mono ?_
      rintro e w2 ⟨g2, cap2, ls2, hb2, rfl, hat2, hB2⟩
      have hB0 : wr.heap.size ≤ w1.heap.size := HB1.out.size
      have hz12 : w1.heap.size ≤ w2.heap.size := hB2.size
      have hOH : OutH w w2 kb ((List.range n).flatMap (blockS v)) _ w2 := ⟨hs, kb, (HO.out.below HB1.out).below hB2, .inl rfl, Only.refl⟩
      have hBw : Below w.heap.size w w2 := (HB.out.trans (HB1.out.mono HB.out.size)).trans (hB2.mono (Nat.le_trans HB.out.size hB0))
      have hkw : w.heap.size ≤ kb := (HO.out.own.lt kb HO.out.blk).1
      have hA1 : ListsAt wr.heap.size w2 g1 ls1 := HAT1.out.keep hB2.size (fun k _ h => hB2.block k h)
      have hA2 : ListsAt wr.heap.size w2 g2 ls2 := hat2.mono hB0
      have KEY := Lib.hid (show ∀ W, Only (fun k => k = kb) w2 W → ListsAt wr.heap.size W g1 ls1 ∧ ListsAt wr.heap.size W g2 ls2 from fun W h =>
        ⟨hA1.keep h.size fun k h1 h2 => h.block k h2 (by omega), hA2.keep h.size fun k h1 h2 => h.block k h2 (by omega)⟩)
      have hl1 : ls1.length = (listsS (n + 1) v).length := by rw [← HL1.out]; simp
      have hl2 : ls2.length = (listsS (n + 1) n).length := by rw [← hb2]; simp
      have hle1 := listsS_le (m := n + 1) (n := v) (by omega) hv.2
      have hle2 := listsS_le (m := n + 1) (n := n) (by omega) (by omega)
      have HBW := Lib.hid hBw
      have HL2 := Lib.hid hb2
      have HOH := Lib.hid hOH
      clear hA1 hA2 hat2 hBw hb2 hOH hB2 HAT1 HB1 HO HB
      go_wp2
      go_loopw [5, 9] (fun u i wq => ∃ (j : Nat), j ≤ ls1.length ∧ i = .int .i64 (j : Int) ∧ OutH w w2 kb ((List.range n).flatMap (blockS v) ++ ((listsS (n + 1) v).take j).flatMap (fun hd => pairsS (v : Int) hd (listsS (n + 1) n))) u wq) (fun _ i _ => (ls1.length - (intOf i).toNat))
      case atStart => exact ⟨0, Nat.zero_le _, rfl, outH_start HOH.out⟩
      case round =>
        obtain ⟨j, hj, rfl, hO⟩ := hrel
        by_cases hlj : j < ls1.length
        · have hlj' : j < (listsS (n + 1) v).length := by omega
          have HOJ := Lib.hid hO
          clear hO
          go_wp2
          go_loopw [5, 10] (fun u i wq => ∃ (k : Nat), k ≤ ls2.length ∧ i = .int .i64 (k : Int) ∧ OutH w w2 kb ((List.range n).flatMap (blockS v) ++ ((listsS (n + 1) v).take j).flatMap (fun hd => pairsS (v : Int) hd (listsS (n + 1) n)) ++ pairsS (v : Int) (listsS (n + 1) v)[j] ((listsS (n + 1) n).take k)) u wq) (fun _ i _ => (ls2.length - (intOf i).toNat))
          case atStart => exact ⟨0, Nat.zero_le _, rfl, outH_start HOJ.out⟩
          case round =>
            obtain ⟨k, hk, rfl, hO⟩ := hrel
            by_cases hlk : k < ls2.length
            · have hlk' : k < (listsS (n + 1) n).length := by omega
              obtain ⟨hs', kb', hO1, hO2, hO3⟩ := hO
              obtain ⟨hK1, hK2⟩ := KEY.out _ hO3
              obtain ⟨c0, hX⟩ := hK1.item j hlj
              obtain ⟨c1, hY⟩ := hK2.item k hlk
              have hxs : ls1[j].xs = (listsS (n + 1) v)[j] := by
                have h1 : (ls1.map Lp.xs)[j]? = (listsS (n + 1) v)[j]? := by rw [HL1.out]
                simpa [hlj, hlj'] using h1
              have hys : ls2[k].xs = (listsS (n + 1) n)[k] := by
                have h1 : (ls2.map Lp.xs)[k]? = (listsS (n + 1) n)[k]? := by rw [HL2.out]
                simpa [hlk, hlk'] using h1
              have hxl : ls1[j].xs.length = v := by rw [hxs]; exact listsS_each (List.getElem_mem hlj')
              have hyl : ls2[k].xs.length = n := by rw [hys]; exact listsS_each (List.getElem_mem hlk')
              have hlen := small_len (n := n) (i := j) (k := k) hv.2 hc hlt (listsS (n + 1) v)[j]
              have hnext : pairsS (v : Int) (listsS (n + 1) v)[j] ((listsS (n + 1) n).take (k + 1)) = pairsS (v : Int) (listsS (n + 1) v)[j] ((listsS (n + 1) n).take k) ++ (if heapB (v : Int) ls1[j].xs ls2[k].xs = true then [(ls1[j].xs, ls2[k].xs)] else []) := by
                rw [hxs, hys]
                exact flat_next _ _ k hlk'
              obtain ⟨cv, hcv⟩ := own_some hO1.own hO1.blk
              subst hcv
              have hsl := congrArg List.length hO1.body
              rw [List.length_map] at hsl
              rw [← hsl] at hlen
              have hat : HeapAt wr (some ⟨ls1[j].g, 0, none⟩) (some ⟨ls2[k].g, 0, none⟩) ls1[j].xs ls2[k].xs := ⟨hX.row, hY.row⟩
              have hgl1 := hK1.lt
              have hgl2 := hK2.lt
              generalize ls1[j] = x at *
              generalize ls2[k] = y at *
              have HAT := Lib.hid hat
              have HO1 := Lib.hid hO1
              have HO3 := Lib.hid hO3
              have HNX := Lib.hid hnext
              have HXL := Lib.hid hxl
              have HYL := Lib.hid hyl
              have hkk : kb' < wr.heap.size := (HO1.out.own.lt kb' HO1.out.blk).2
              clear hxl hyl hK1 hK2 hX hY hsl hnext hat hO1 hO3 hxs hys
              go_wp2
              go_region
              go_wp2_with fail
              have hbd : Below wr.heap.size wr (wr.alloc (.cells #[.slice (some ⟨x.g, 0, none⟩) x.xs.length x.c, .slice (some ⟨y.g, 0, none⟩) y.xs.length y.c] 30)).drew := Below.drew ((Below.refl _ _).alloc (Nat.le_refl _) _)
              have hbox := (BoxL.new wr [.slice (some ⟨x.g, 0, none⟩) x.xs.length x.c, .slice (some ⟨y.g, 0, none⟩) y.xs.length y.c] 30).below (Below.drew (Below.refl _ _))
              replace hbox : BoxL (wr.alloc (.cells #[.slice (some ⟨x.g, 0, none⟩) x.xs.length x.c, .slice (some ⟨y.g, 0, none⟩) y.xs.length y.c] 30)).drew wr.heap.size [.slice (some ⟨x.g, 0, none⟩) x.xs.length x.c, .slice (some ⟨y.g, 0, none⟩) y.xs.length y.c] := hbox
              have hzd : wr.heap.size < (wr.alloc (.cells #[.slice (some ⟨x.g, 0, none⟩) x.xs.length x.c, .slice (some ⟨y.g, 0, none⟩) y.xs.length y.c] 30)).drew.heap.size := hbox.lt
              obtain ⟨WD, hWD⟩ : ∃ W, (wr.alloc (.cells #[.slice (some ⟨x.g, 0, none⟩) x.xs.length x.c, .slice (some ⟨y.g, 0, none⟩) y.xs.length y.c] 30)).drew = W := ⟨_, rfl⟩
              rw [hWD] at hbd hbox hzd ⊢
              clear hWD
              have hmx : x.xs.length ≤ maxLen := by have := HXL.out; unfold maxLen; omega
              have hmy : y.xs.length ≤ maxLen := by have := HYL.out; unfold maxLen; omega
              refine (specIsHeap (v : Int) (some ⟨x.g, 0, none⟩) (some ⟨y.g, 0, none⟩) x.c y.c x.xs y.xs _ hmx hmy (HAT.out.below hbd (Nat.le_refl _))).mono ?_
              rintro e w5 ⟨rfl, hb5⟩
              have hbd5 := hbd.trans (hb5.mono hbd.size)
              have hbox5 := hbox.below hb5
              have u0 := hbox5.c 0 _ rfl
              have u1 := hbox5.c 1 _ rfl
              have hO5 : OutB w _ _ w5 hs' kb' := HO1.out.below hbd5
              have hO53 := HO3.out.trans (Only.of_below hbd5)
              have HO5 := Lib.hid hO5
              have HO53 := Lib.hid hO53
              have HAT5 := Lib.hid (HAT.out.below hbd5 (Nat.le_refl _))
              have hz5 := hbox5.lt
              clear hbd hbox hzd hb5 hbd5 hbox5 hO5 hO53
              cases hp : heapB (v : Int) x.xs y.xs
              case' false =>
                rw [hp] at HNX
                have HE := Lib.hid (show OutH w w2 kb ((List.range n).flatMap (blockS v) ++ ((listsS (n + 1) v).take j).flatMap (fun hd => pairsS (v : Int) hd (listsS (n + 1) n)) ++ pairsS (v : Int) (listsS (n + 1) v)[j] ((listsS (n + 1) n).take (k + 1))) _ w5 by
                  rw [HNX.out, if_neg (by decide), List.append_nil]
                  exact ⟨hs', kb', HO5.out, hO2, HO53.out⟩)
                clear u0 u1
                go_wp2
                go_roundw
                case rel => exact ⟨k + 1, by omega, by go_num, HE.out⟩
                case measure => simp [intOf]; omega
              case' true =>
                rw [hp] at HNX
                go_wp2_with fail
                refine (specCopy (some ⟨x.g, 0, none⟩) (some ⟨y.g, 0, none⟩) x.c y.c x.xs y.xs _ (fun e => by cases e) (fun e => by cases e) HAT5.out (by have := HXL.out; omega) (by have := HYL.out; omega)).mono ?_
                rintro e w6 ⟨a6, c6, b6, d6, rfl, hin6, hb6⟩
                have HIN6 := Lib.hid hin6
                have HB6 := Lib.hid hb6
                have HO6 := Lib.hid (own_keeps HO5.out.own hb6)
                have hz6 := hb6.size
                have hw6 : w.heap.size ≤ w6.heap.size := by omega
                clear hin6 hb6 u0 u1
                go_wp2_with (first
                  | (at_builtin; refine wpList_append_own_at _ rfl (.tmp 59) (.tmp 62) 38 rfl w.heap.size 30 i0 (.agg #[.slice none 0 0, .slice none 0 0]) 2 48 Tryz.underlying38 hi9 hz0 hz1 hz2 rfl (by decide) _ hs'.length (hpVals hs') rfl (HO6.out.alloc _) ⟨w6.heap.size, 0, none⟩ 1 1 [.slice a6 x.xs.length c6, .slice b6 y.xs.length d6] rfl rfl ?_ ?_ ?_ ?_ ?_ ?_; (focus exact lit2_news _ _ _ _); (focus exact lit2_one _ _ _ _ _ _); (focus (unfold maxLen; omega)); (focus omega); (focus (simp; omega)); intro v7 w7 hown7 hg7 _ hloc7; have HO7 := Lib.hid hown7; have HG7 := Lib.hid hg7; have HL7 := Lib.hid hloc7; clear hown7 hg7 hloc7)
                  | fail)
                go_roundw
                case rel =>
                  have hg7 : (w6.alloc (.cells #[.slice a6 x.xs.length c6, .slice b6 y.xs.length d6] 30)).grownBy w7 (some kb') := HG7.out
                  have hl7 : v7.ownBlock = some kb' ∨ v7.ownBlock = some (w6.alloc (.cells #[.slice a6 x.xs.length c6, .slice b6 y.xs.length d6] 30)).heap.size := HL7.out
                  have ha := (Below.refl w6.heap.size w6).alloc (Nat.le_refl _) (.cells #[.slice a6 x.xs.length c6, .slice b6 y.xs.length d6] 30)
                  have hN : Hp.In w5.heap.size w6.heap.size w6 ⟨a6, c6, b6, d6, x.xs, y.xs⟩ := HIN6.out
                  have hN' : Hp.In w.heap.size (w6.alloc (.cells #[.slice a6 x.xs.length c6, .slice b6 y.xs.length d6] 30)).heap.size (w6.alloc (.cells #[.slice a6 x.xs.length c6, .slice b6 y.xs.length d6] 30)) ⟨a6, c6, b6, d6, x.xs, y.xs⟩ :=
                    (hN.same ha.size (fun q hq => ha.block q (hN.has_lt hq).2)).mono (by omega) ha.size (Nat.le_refl _)
                  have h7 := outH_next (x := ⟨a6, c6, b6, d6, x.xs, y.xs⟩) ((HO5.out.below HB6.out).below ha) hO2 ((HO53.out.trans (Only.of_below HB6.out)).trans (Only.of_below ha)) hN'
                    (fun z hz q hq hq2 => by have := (HO5.out.ins.has_lt hz hq).2; have := (hN.has_lt hq2).1; omega) (fun hq => by have := (hN.has_lt hq).1; omega) HO7.out hg7 (hl7.imp id fun e => ⟨_, e, Nat.le_refl _⟩)
                  refine ⟨k + 1, by omega, by go_num, ?_⟩
                  rw [HNX.out, if_pos (by trivial), ← List.append_assoc]
                  exact h7
                case measure => simp [intOf]; omega
            · have hke : k = (listsS (n + 1) n).length := by omega
              have HN : Hid (OutH w w2 kb ((List.range n).flatMap (blockS v) ++ ((listsS (n + 1) v).take (j + 1)).flatMap (fun hd => pairsS (v : Int) hd (listsS (n + 1) n))) _ _) := Lib.hid (by
                rw [hke, List.take_length, List.append_assoc, ← flat_next (fun hd => pairsS (v : Int) hd (listsS (n + 1) n)) _ j hlj'] at hO
                exact hO)
              clear hO
              go_wp2
              go_roundw
              case rel => exact ⟨j + 1, by omega, by go_num, HN.out⟩
              case measure => simp [intOf]; omega
        · have hje : j = (listsS (n + 1) v).length := by omega
          obtain ⟨hs', kb', hO1, hO2, hO3⟩ := hO
          rw [hje, List.take_length] at hO1
          have hbd : (List.range n).flatMap (blockS v) ++ (listsS (n + 1) v).flatMap (fun hd => pairsS (v : Int) hd (listsS (n + 1) n)) = (List.range (n + 1)).flatMap (blockS v) := by
            rw [List.range_succ, List.flatMap_append]
            simp [blockS]
          rw [hbd] at hO1
          have hBn := hO3.below HBW.out HBW.out.size (fun k hk => by omega)
          have HO1 := Lib.hid hO1
          have HBN := Lib.hid hBn
          clear hO1 hO2 hO3 hbd hBn
          go_wp2
          go_roundw
          case rel => exact ⟨n + 1, hs', kb', by omega, by go_num, HO1.out, HBN.out⟩
          case measure => simp [intOf]; omega
    · have hne : n = c + 1 := by omega
      subst hne
      have hgt : ¬ (((c + 1 : Nat) : Int) ≤ (c : Int)) := by omega
      rw [HBIG.out] at hO
      have HE := Lib.hid (gave_out hO hB)
      clear hO hB
      go_wp2
      go_ret
      exact HE.out
theorem specSmall (v c : Int) (w : World) : Calls Tryz.prog 19 #[.int .i64 v, .int .i64 c] w (GaveHeaps (smallS v c) w) := by
  by_cases hg : (1 ≤ v ∧ v ≤ 4) ∧ (0 ≤ c ∧ c ≤ 3)
  · obtain ⟨m, rfl⟩ : ∃ m : Nat, v = (m : Int) := ⟨v.toNat, by omega⟩
    obtain ⟨d, rfl⟩ : ∃ d : Nat, c = (d : Int) := ⟨c.toNat, by omega⟩
    have := specSmall_good m d (by omega) (by omega) w
    rw [smallS, if_pos hg]
    simpa using this
  · rw [smallS, if_neg hg]
    have ho0 := World.ownsRow_made (e := 30) (size := 2) (base := w.heap.size) w #[] 0 (Nat.le_refl _) (Nat.zero_le _) rfl
    have HE := Lib.hid (show GaveHeaps [] w (.returned (.slice (some ⟨w.heap.size, 0, none⟩) 0 0)) (w.alloc (.cells #[] 30)) from
      ⟨_, 0, [], rfl, rfl, ho0, HeapsIn.nil, fun x hx => by simp at hx, (Below.refl _ _).alloc (Nat.le_refl _) _⟩)
    clear ho0
    by_cases h1 : 1 ≤ v ∧ v ≤ 4
    · have q1 : (decide ((1 : Int) ≤ v) && decide (v ≤ 4)) = true := by simp; omega
      have q2 : (decide ((0 : Int) ≤ c) && decide (c ≤ 3)) = false := by
        rw [Bool.and_eq_false_iff]
        simp only [decide_eq_false_iff_not]
        omega
      have Q1 := Lib.hid q1
      have Q2 := Lib.hid q2
      clear q1 q2 hg h1
      go_enter Tryz.func19, Tryz.ntmps19
      go_wp2_with fail
      refine (specIn v 1 4 _).mono ?_
      rw [Q1.out]
      rintro e w1 ⟨rfl, rfl⟩
      go_wp2_with fail
      refine (specIn c 0 3 _).mono ?_
      rw [Q2.out]
      rintro e w1 ⟨rfl, rfl⟩
      go_wp2
      go_ret
      exact HE.out
    · have q1 : (decide ((1 : Int) ≤ v) && decide (v ≤ 4)) = false := by
        rw [Bool.and_eq_false_iff]
        simp only [decide_eq_false_iff_not]
        omega
      have Q1 := Lib.hid q1
      clear q1 hg h1
      go_enter Tryz.func19, Tryz.ntmps19
      go_wp2_with fail
      refine (specIn v 1 4 _).mono ?_
      rw [Q1.out]
      rintro e w1 ⟨rfl, rfl⟩
      go_wp2
      go_ret
      exact HE.out
end Go.Proofs.YtpmmjaceehlpiaaGreatDoor
/-
  A program that is drawn and bent.
-/
namespace Go.Proofs.YtpmmjaceehlpiaaGreatDoor
open Go Go.RowKit Go.ChangeShapes Go.WideShapes Go.ChangeAt

theorem own_cap {w : World} {base e size n : Nat} {a : Option Addr} {c : Nat} {xs : List Value} (h : w.ownsRow base e size (.slice a n c) n xs) : n ≤ c := by
  obtain ⟨a', c', e, hc⟩ := own_form' h
  injection e with _ _ e
  omega
/-- The end of such a draw: the program so far is the answer. -/
theorem bent_end {w wr : World} {g P B : Nat} {va vb : Option Addr} {vc vd : Nat} {vs : List ByteArray} {p : Int} {es : List Ed} (D : Dn w g P (.slice va vs.length vc) (.int .i64 p) (.slice vb es.length vd) wr)
    (o1 : wr.ownsRow B 9 1 (.slice va vs.length vc) vs.length (strVals vs)) (o2 : wr.ownsRow B 85 5 (.slice vb es.length vd) es.length (edVals es)) (hB : w.heap.size < B) (hS : Small vs p es) :
    ProgBent g w (.returned (progV va vs.length vc p vb es.length vd)) (set3P wr w.heap.size (.slice va vs.length vc) (.int .i64 p) (.slice vb es.length vd)) := by
  have hs := set3_size wr w.heap.size (.slice va vs.length vc) (.int .i64 p) (.slice vb es.length vd)
  refine ⟨va, vc, vb, vd, vs, p, es, hS, own_cap o1, rfl, own_none o1, own_none o2, ?_, ?_, cur_set3 D.cur D.hg _ _ _, only_set3 D.grown (Nat.le_refl _) _ _ _⟩
  · rw [hs]
    exact ((Rw.own o1).set3P hB _ _ _).widen (by omega) (Nat.le_refl _)
  · rw [hs]
    exact ((Rw.own o2).set3P hB _ _ _).widen (by omega) (Nat.le_refl _)
def pickPts : List Int := [0, 1, 12, 13]
theorem pickPts_in {v : Value} (h : v ∈ intVals pickPts) : ∃ n : Int, v = .int .i64 n ∧ 0 ≤ n ∧ n ≤ 13 := by
  obtain ⟨n, hn, rfl⟩ := List.mem_map.1 h
  refine ⟨n, rfl, ?_⟩
  simp [pickPts] at hn
  omega

set_option maxHeartbeats 3200000 in
set_option maxRecDepth 100000 in
theorem drawBentProg (g : Nat) (w : World) (hcur : Cur w g) : Calls Tryz.prog 49 #[.pointer (some ⟨g, 0, none⟩)] w (ProgBent g w) := by
  have hg0 := hcur.lt
  obtain ⟨i0, hi, hz0, hz1, hz2⟩ := info_parts edgeInfo
  obtain ⟨j0, hj, hy0, hy1, hy2⟩ := info_parts strInfoP
  go_enter Tryz.func49, Tryz.ntmps49
  go_wp2_with fail
  obtain ⟨W0, hW0, hb0, hs0, hA0⟩ := one_box w (.slice none 0 0) (.int .i64 0) (.slice none 0 0) 27
  have hf0 : ∀ o, W0.frozen? ⟨w.heap.size, o, none⟩ = false := fun o => by rw [← hW0]; simp [go_sem]
  rw [hW0]
  clear hW0
  have hG0 : w.grownBy W0 (some g) := only_below (only_same _ _) hb0
  refine (drawProg g _ (hcur.keeps hb0)).mono ?_
  rintro e w1 ⟨ra, rc, rb, rd, vs, p, es, hS, hl, he, hp, rfl, hna, hnb, h1, h2, hc1, hw1⟩
  obtain ⟨k1, f1⟩ := gcell hw1
  have hn1 : ¬ w.heap.size = g := by omega
  have hs1 : w.heap.size < w1.heap.size := Nat.lt_of_lt_of_le hs0 hw1.size
  have a0 := (k1 w.heap.size 0 hs0 hn1).trans hA0.1
  have a1 := (k1 w.heap.size 1 hs0 hn1).trans hA0.2.1
  have a2 := (k1 w.heap.size 2 hs0 hn1).trans hA0.2.2
  have g1 : ∀ o, w1.frozen? ⟨w.heap.size, o, none⟩ = false := fun o => (f1 w.heap.size o hs0 hn1).trans (hf0 o)
  have hG1 := only_then hG0 hw1
  clear k1 f1 hA0 hf0
  go_wp2_with fail
  refine (drawCopy ra rb rc rd vs p es _ hna hnb (h1.row (Nat.le_refl _)) (h2.row (Nat.le_refl _)) (by omega) (by omega)).mono ?_
  rintro e w2 ⟨va, vc, vb, vd, rfl, o1, o2, hd, hb2⟩
  clear h1 h2 hna hnb
  go_wp2_with fail
  obtain ⟨W3, hW3, hb3, hs3, hP3⟩ := one_box w2 (.slice va vs.length vc) (.int .i64 p) (.slice vb es.length vd) 27
  have pf3 : ∀ o, W3.frozen? ⟨w2.heap.size, o, none⟩ = false := fun o => by rw [← hW3]; simp [go_sem]
  rw [hW3]
  clear hW3
  have hb13 := hb2.trans (hb3.mono hb2.size)
  have D3 : Dn w g w2.heap.size (.slice va vs.length vc) (.int .i64 p) (.slice vb es.length vd) W3 :=
    ⟨hc1.keeps hb13, only_below hG1 hb13, hP3, pf3, ⟨(hb13.cell (p := ⟨w.heap.size, 0, none⟩) hs1).trans a0, (hb13.cell (p := ⟨w.heap.size, 1, none⟩) hs1).trans a1, (hb13.cell (p := ⟨w.heap.size, 2, none⟩) hs1).trans a2⟩, fun o => (hb13.frozen (p := ⟨w.heap.size, o, none⟩) hs1).trans (g1 o), hg0, Nat.lt_of_lt_of_le hs1 hb2.size, hs3⟩
  have l1 : ∀ j, (Value.slice va vs.length vc).ownBlock = some j → j < w2.heap.size := fun j hj => (o1.lt j hj).2
  have l2 : ∀ j, (Value.slice vb es.length vd).ownBlock = some j → j < w2.heap.size := fun j hj => (o2.lt j hj).2
  refine (drawBelow g 8 _ (by omega) (by omega) D3.cur).mono ?_
  rintro e w4 ⟨x, hx, rfl, hc4, hw4⟩
  have D4 := D3.only hc4 hw4
  have p1 : W3.ownsRow w1.heap.size 9 1 _ _ _ := own_keeps o1 hb3
  have p2 : W3.ownsRow w1.heap.size 85 5 _ _ _ := own_keeps o2 hb3
  have q1 := own_other p1 hw4 (fun j hj e => by have := (p1.lt j hj).1; injection e with e; omega)
  have q2 := own_other p2 hw4 (fun j hj e => by have := (p2.lt j hj).1; injection e with e; omega)
  have hB2 := hb2.size
  clear p1 p2 o1 o2 D3 hP3 pf3 hb3 hb13 hw4 hc4 a0 a1 a2 g1 hb2 hs3
  generalize w2.heap.size = P at *
  have hNP := D4.hP
  have hNP' : ¬ w.heap.size = P := by omega
  have hBN : w.heap.size < w1.heap.size := hs1
  generalize w1.heap.size = B at *
  clear hb0 hs0 hG0 hw1 hG1 hc1 hcur hs1
  by_cases x0 : x = 0
  · subst x0
    go_wp2_with fail
    refine (drawPickInt g 4 (some (⟨w4.heap.size, 0, none⟩ : Addr)) pickPts _ (by decide) (by decide) (D4.cur.alloc _) (beside_at (intVals pickPts).toArray (by simp) (by have := D4.cur.lt; first | omega | (simp; omega)))).mono ?_
    rintro e w5 ⟨v5, hv5, rfl, hc5, hw5⟩
    obtain ⟨n5, rfl, hn0, hn13⟩ := pickPts_in hv5
    have D4a := D4.call ((Below.refl _ _).alloc (Nat.le_refl _) (.cells (intVals pickPts).toArray 3))
    have D5 := D4a.only hc5 hw5
    have q1a : (w4.alloc (.cells (intVals pickPts).toArray 3)).ownsRow B 9 1 _ _ _ := q1.alloc _
    have q2a : (w4.alloc (.cells (intVals pickPts).toArray 3)).ownsRow B 85 5 _ _ _ := q2.alloc _
    have r1 := own_other q1a hw5 (fun j hj e => by have := (q1a.lt j hj).1; injection e with e; omega)
    have r2 := own_other q2a hw5 (fun j hj e => by have := (q2a.lt j hj).1; injection e with e; omega)
    have c1 := D5.p.2.1
    have cf := D5.pf
    have DE : Dn w g P (.slice va vs.length vc) (.int .i64 n5) (.slice vb es.length vd) (w5.setCell ⟨P, 1, none⟩ (.int .i64 n5)) := D5.setP 1 (.int .i64 n5)
    have s1 := own_other r1 (grown_cell (grown_self w5 (some P)) (i := 1) (u := .int .i64 n5)) (fun j hj e => by have := l1 j hj; injection e with e; omega)
    have s2 := own_other r2 (grown_cell (grown_self w5 (some P)) (i := 1) (u := .int .i64 n5)) (fun j hj e => by have := l2 j hj; injection e with e; omega)
    have hend := Lib.hid (bent_end DE s1 s2 hBN ⟨hS.len, hS.size, ⟨hn0, hn13⟩, hS.edges, hS.ok⟩)
    obtain ⟨m0, m1, m2⟩ := D5.p
    obtain ⟨n0, n1, n2⟩ := D5.n
    have nf := D5.nf
    have hwz := Nat.lt_trans D5.hP D5.hW
    clear q1 q2 q1a q2a r1 r2 s1 s2 D4 D4a DE hc5 hw5 hv5
    go_wp2
    exact bodyPost_ret (v := progV va vs.length vc n5 vb es.length vd) (by simp [results, Tryz.results49, go_sem, n0, n1, n2]) rfl hend.out
  by_cases x1 : x = 1
  · subst x1
    obtain ⟨m0, m1, m2⟩ := D4.p
    have mf := D4.pf
    have hPW := D4.hW
    have hPW' : ¬ P = w4.heap.size := by omega
    have hq1 : vs.length + 1 ≤ maxLen := by unfold maxLen; omega
    have hq2 : (vs.length + 1) * 16 ≤ 140737488355328 := by omega
    have hBW : B ≤ w4.heap.size := by omega
    go_wp2_with (at_builtin; refine wpList_append_lies _ rfl (.tmp 18) (.tmp 19) 24 rfl B 9 j0 (.string ⟨#[]⟩) 1 16 Tryz.underlying24 hj hy0 hy1 hy2 rfl (by decide) _ vs.length (strVals vs) rfl (q1.alloc _) ⟨w4.heap.size, 0, none⟩ 1 1 [.string ⟨#[120]⟩] rfl rfl (one_cell _) (one_oneCell _) (by omega) hq1 hq2 (Nat.le_trans hBW (by simp)) _ rfl ?_; intro g9 cap9 w9 hown9 hg9 hat9 _; have D9 := (D4.call ((Below.refl _ _).alloc (Nat.le_refl _) _)).growR hg9 (fun j hj => ⟨Nat.lt_of_lt_of_le hBN (q1.lt j hj).1, Nat.ne_of_lt (l1 j hj)⟩); have p9 := D9.p.1; have p91 := D9.p.2.1; have p92 := D9.p.2.2; have pf9 := D9.pf; have n0 := D9.n.1; have n1 := D9.n.2.1; have n2 := D9.n.2.2; have nf := D9.nf; have hwz := Nat.lt_trans D9.hP D9.hW)
    have DE : Dn w g P (.slice (some ⟨g9, 0, none⟩) (vs.length + 1) cap9) (.int .i64 p) (.slice vb es.length vd) (w9.setCell ⟨P, 0, none⟩ (.slice (some ⟨g9, 0, none⟩) (vs.length + 1) cap9)) := D9.setP 0 _
    have r2 := own_other (q2.alloc _) hg9 (fun j hj e => hd j e.symm hj)
    have hg9P : g9 ≠ P := by
      rcases hat9 with h | h
      · exact Nat.ne_of_lt (l1 g9 h)
      · simp at h
        omega
    have s1 := own_other hown9 (grown_cell (grown_self w9 (some P)) (i := 0) (u := .slice (some ⟨g9, 0, none⟩) (vs.length + 1) cap9)) (fun j hj e => by injection hj with hj; injection e with e; simp only at hj; omega)
    have s2 := own_other r2 (grown_cell (grown_self w9 (some P)) (i := 0) (u := .slice (some ⟨g9, 0, none⟩) (vs.length + 1) cap9)) (fun j hj e => by have := l2 j hj; injection e with e; omega)
    have el : (vs ++ [(⟨#[120]⟩ : ByteArray)]).length = vs.length + 1 := by simp
    have DE' : Dn w g P (.slice (some ⟨g9, 0, none⟩) (vs ++ [(⟨#[120]⟩ : ByteArray)]).length cap9) (.int .i64 p) (.slice vb es.length vd) (w9.setCell ⟨P, 0, none⟩ (.slice (some ⟨g9, 0, none⟩) (vs.length + 1) cap9)) := by rw [el]; exact DE
    have hend := bent_end DE' (by rw [el, strVals_snoc]; exact s1) s2 hBN ⟨by rw [el]; omega, all_snoc hS.size (by decide), hS.pts, hS.edges, hS.ok⟩
    rw [el] at hend
    have hend := Lib.hid hend
    refine bodyPost_ret (v := progV (some ⟨g9, 0, none⟩) (vs.length + 1) cap9 p vb es.length vd) (by simp [results, Tryz.results49, go_sem, n0, n1, n2]) rfl ?_
    exact hend.out
  by_cases x2 : x = 2
  · subst x2
    have mf := D4.pf
    have m2 := D4.p.2.2
    have Dd := D4.call (Below.drew (Below.refl _ _))
    have O0 := own_keeps q2 (Below.drew (Below.refl _ _))
    have R0 := own_keeps q1 (Below.drew (Below.refl _ _))
    have HD := Lib.hid Dd
    have HO0 := Lib.hid O0
    have HR0 := Lib.hid R0
    have HS := Lib.hid hS
    have HL1 := Lib.hid l1
    have HL2 := Lib.hid l2
    have HDD := Lib.hid hd
    clear Dd O0 R0 hS l1 l2 hd
    go_wp2
    go_region_law (first
      | (go_simp; go_at_call 46; refine (drawBelow g 3 _ (by omega) (by omega) HD.out.cur).mono ?_; rintro e w5 ⟨y, hy, rfl, hc5, hw5⟩; have D5 := HD.out.only hc5 hw5; have O5 := own_other HO0.out hw5 (fun j hj e => by have := (HO0.out.lt j hj).1; injection e with e; omega); have R5 := own_other HR0.out hw5 (fun j hj e => by have := (HR0.out.lt j hj).1; injection e with e; omega); have d5 := D5.p.2.2)
      | (go_simp; go_at_call 90; (with_reducible refine (drawBent g _ D5.cur).mono ?_); rintro e w6 ⟨kk, sa, sb, hk1, hk2, hsa, hsb, rfl, hc6, hw6⟩; have D6 := D5.only hc6 hw6; have O6 := own_other O5 hw6 (fun j hj e => by have := (O5.lt j hj).1; injection e with e; omega); have R6 := own_other R5 hw6 (fun j hj e => by have := (R5.lt j hj).1; injection e with e; omega); have d6 := D6.p.2.2; have z6 := D6.hW; have z6' : ¬ P = w6.heap.size := (by omega))
      | (refine step_append_lies _ rfl (.tmp 25) (.tmp 31) 25 rfl B 85 i0 (.agg #[.int .i64 0, .int .i64 0, .int .i64 0, .string ⟨#[]⟩, .string ⟨#[]⟩]) 5 56 Tryz.underlying25 hi hz0 hz1 hz2 rfl (by decide) (.slice vb es.length vd) es.length (edVals es) ?_ (O6.alloc _) ⟨w6.heap.size, 0, none⟩ 1 1 (edCells ⟨0, (y : Int), kk, sa, sb⟩) ?_ rfl ?_ ?_ (by omega) ?_ ?_ ?_ _ rfl ?_
         · simp [Act.eval, Act.put]
         · simp [Act.eval, Act.put]
         · exact news_edge w6 ⟨0, (y : Int), kk, sa, sb⟩
         · exact edCells_one _
         · unfold maxLen; omega
         · omega
         · exact Nat.le_trans (Nat.le_of_lt (Nat.lt_of_le_of_lt hB2 D6.hW)) (by simp)
         intro g9 cap9 w9 hown9 hg9 hat9 hlt9
         have D9 := (D6.call ((Below.refl _ _).alloc (Nat.le_refl _) _)).growR hg9 (fun j hj => ⟨Nat.lt_of_lt_of_le hBN (O6.lt j hj).1, Nat.ne_of_lt (HL2.out j hj)⟩)
         have d9 := D9.p.2.2
         have pf9 := D9.pf))
    all_goals
      have DE : Dn w g P (.slice va vs.length vc) (.int .i64 p) (.slice (some ⟨g9, 0, none⟩) (es.length + 1) cap9) (w9.setCell ⟨P, 2, none⟩ (.slice (some ⟨g9, 0, none⟩) (es.length + 1) cap9)) := D9.setP 2 _
      have r1 := own_other (R6.alloc _) hg9 (fun j hj e => HDD.out j hj e.symm)
      have hg9P : g9 ≠ P := by
        rcases hat9 with h | h
        · exact Nat.ne_of_lt (HL2.out g9 h)
        · simp at h
          omega
      have s2 := own_other hown9 (grown_cell (grown_self w9 (some P)) (i := 2) (u := .slice (some ⟨g9, 0, none⟩) (es.length + 1) cap9)) (fun j hj e => by injection hj with hj; injection e with e; simp only at hj; omega)
      have s1 := own_other r1 (grown_cell (grown_self w9 (some P)) (i := 2) (u := .slice (some ⟨g9, 0, none⟩) (es.length + 1) cap9)) (fun j hj e => by have := HL1.out j hj; injection e with e; omega)
      have el : (es ++ [(⟨0, (y : Int), kk, sa, sb⟩ : Ed)]).length = es.length + 1 := by simp
      have DE' : Dn w g P (.slice va vs.length vc) (.int .i64 p) (.slice (some ⟨g9, 0, none⟩) (es ++ [(⟨0, (y : Int), kk, sa, sb⟩ : Ed)]).length cap9) (w9.setCell ⟨P, 2, none⟩ (.slice (some ⟨g9, 0, none⟩) (es.length + 1) cap9)) := by rw [el]; exact DE
      have hend := bent_end DE' s1 (by rw [el, edVals_snoc]; exact s2) hBN ⟨HS.out.len, HS.out.size, HS.out.pts, by rw [el]; omega, all_snoc HS.out.ok ⟨⟨by simp only; omega, by simp only; omega⟩, ⟨by simp only; omega, by simp only; omega⟩, ⟨by simp only; omega, by simp only; omega⟩, by unfold maxLen; simp only; omega, by unfold maxLen; simp only; omega⟩⟩
      rw [el] at hend
      have hend := Lib.hid hend
      obtain ⟨m0', m1', m2'⟩ := D9.p
      obtain ⟨n0, n1, n2⟩ := D9.n
      have nf := D9.nf
      have hwz := Nat.lt_trans D9.hP D9.hW
      clear q1 q2 r1 s1 s2 DE DE' hown9 hg9 D5 D6 O5 O6 R5 R6
      go_wp2
      exact bodyPost_ret (v := progV va vs.length vc p (some ⟨g9, 0, none⟩) (es.length + 1) cap9) (by simp [results, Tryz.results49, go_sem, n0, n1, n2]) rfl hend.out
  obtain ⟨m0, m1, m2⟩ := D4.p
  obtain ⟨n0, n1, n2⟩ := D4.n
  have nf := D4.nf
  have hwz := Nat.lt_trans D4.hP D4.hW
  have hend := Lib.hid (bent_end D4 q1 q2 hBN hS)
  clear q1 q2 D4
  go_wp2
  exact bodyPost_ret (v := progV va vs.length vc p vb es.length vd) (by simp [results, Tryz.results49, go_sem, n0, n1, n2]) rfl hend.out
end Go.Proofs.YtpmmjaceehlpiaaGreatDoor

namespace Go.Proofs.YtpmmjaceehlpiaaGreatDoor
open Go Go.RowKit Go.ChangeShapes Go.WideShapes Go.ChangeAt
end Go.Proofs.YtpmmjaceehlpiaaGreatDoor
/-
  The model's l7Draw with any number of variables: a heap.
-/
namespace Go.Proofs.YtpmmjaceehlpiaaGreatDoor
open Go Go.RowKit Go.ChangeShapes Go.WideShapes
/-- A heap with n variables, drawn. -/
def HeapDrawnN (n g : Nat) (w : World) (e : Ending) (w' : World) : Prop :=
  ∃ a ca b cb vs zs, e = .returned (heV a vs.length ca b zs.length cb) ∧ vs.length = n ∧ zs.length ≤ 5 ∧ HeapIn w.heap.size w'.heap.size w' a ca b cb (intVals vs) (intVals zs) ∧ Dg w g w'
set_option maxRecDepth 100000 in
set_option maxHeartbeats 3200000 in
theorem drawHeapN (n : Nat) (hn4 : n ≤ 4) (g : Nat) (w : World) (hcur : Cur w g) : Calls Tryz.prog 45 #[.pointer (some ⟨g, 0, none⟩), .int .i64 (n : Int)] w (HeapDrawnN n g w) := by
  obtain ⟨i0, hi, hz0, hz1, hz2⟩ := info_parts intInfo
  have hg0 := hcur.lt
  go_enter Tryz.func45, Tryz.ntmps45
  go_wp2_with fail
  obtain ⟨W0, hW0, hb0, bn0, bp0⟩ := two_boxL w [.slice none 0 0, .slice none 0 0] [.slice none 0 0, .slice none 0 0] 30 30
  simp only [List.toArray] at hW0
  rw [hW0]
  clear hW0
  have D0 := (Dg.start hcur).below hb0
  refine (drawBelow g 6 _ (by omega) (by omega) D0.cur).mono ?_
  rintro e w1 ⟨x, hx, rfl, hc1, hw1⟩
  have D1 := D0.draw hc1 hw1
  have bn1 := bn0.turn (turn_drawn hw1) (.inr (by omega))
  have bp1 := bp0.turn (turn_drawn hw1) (.inr (by omega))
  clear D0 bn0 bp0 hc1 hw1 hb0
  go_wp2
  go_loopw [7] (fun i wr => ∃ (k : Nat) (v : Value) (zs : List Int), k ≤ x ∧ i = .int .i64 k ∧ zs.length = k ∧ (∀ z ∈ zs, -1 ≤ z ∧ z < (x : Int)) ∧ Dg w g wr ∧ BoxL wr w.heap.size [.slice none 0 0, .slice none 0 0] ∧ BoxL wr (w.heap.size + 1) [.slice none 0 0, v] ∧ wr.ownsRow (w.heap.size + 2) 3 1 v k (intVals zs))
    (fun i _ => x - (intOf i).toNat)
  case atStart => exact ⟨0, _, [], Nat.zero_le _, rfl, rfl, by simp, D1, bn1, bp1, World.ownsRow_nil _ _ _ _⟩
  case round =>
    clear D1 bn1 bp1
    obtain ⟨k, v, zs, hk, rfl, hzl, hzb, D, bn, bp, hown⟩ := hrel
    have HZ := Lib.hid hzb
    have HL := Lib.hid hzl
    clear hzb hzl
    by_cases hlt : k < x
    · go_wp2_with fail
      refine (drawOnce g 4 _ (by omega) (by omega) D.cur).mono ?_
      rintro e w2 ⟨fl, rfl, hc2, hw2⟩
      have D2 := D.draw hc2 hw2
      have bn2 := bn.turn (turn_drawn hw2) (.inr (by omega))
      have bp2 := bp.turn (turn_drawn hw2) (.inr (by omega))
      have ho2 := own_other hown hw2 (fun j hj e => by have := (hown.lt j hj).1; have := Option.some.inj e; omega)
      clear D bn bp hown hc2 hw2
      cases fl with
      | true =>
        go_wp2_with fail
        rw [show (k : Int) + 1 = ((k + 1 : Nat) : Int) by omega]
        refine (drawBelow g (k + 1) _ (by omega) (by omega) D2.cur).mono ?_
        rintro e w3 ⟨y, hy, rfl, hc3, hw3⟩
        have D3 := D2.draw hc3 hw3
        have bn3 := bn2.turn (turn_drawn hw3) (.inr (by omega))
        have bp3 := bp2.turn (turn_drawn hw3) (.inr (by omega))
        have ho3 := own_other ho2 hw3 (fun j hj e => by have := (ho2.lt j hj).1; have := Option.some.inj e; omega)
        clear D2 bn2 bp2 ho2 hc3 hw3
        have d3 := bp3.c 1 _ rfl
        have f3 := bp3.f
        have hps := bp3.lt
        have hsz3 := D3.grown.size
        have HO := Lib.hid ho3
        clear ho3
        go_wp2_with (first
          | (at_builtin; refine wpList_append_own_at _ rfl (.tmp 29) (.tmp 31) 28 rfl (w.heap.size + 2) 3 i0 (.int .i64 0) 1 8 Tryz.underlying28 hi hz0 hz1 hz2 rfl (by decide) _ k _ rfl (HO.out.alloc _) ⟨w3.heap.size, 0, none⟩ 1 1 [.int .i64 ((y : Int) - 1)] rfl rfl (oneCell_at _) (oneCell_int _) (by unfold maxLen; omega) (by omega) (by simp; omega) ?_; intro v5 w5 hown5 hg5 _ hloc; obtain ⟨va5, vc5, rfl, _⟩ := own_shape hown5; have t5 : Turn (w.heap.size + 2) w5.heap.size _ w5 := Turn.of_grown hg5 (fun j hj => ⟨(HO.out.lt j hj).1, by have h2 : j < w3.heap.size := (HO.out.lt j hj).2; have h1 : w3.heap.size + 1 ≤ w5.heap.size := (by have := hg5.size; simpa using this); omega⟩); have ha := (Below.refl w3.heap.size w3).alloc (Nat.le_refl _) (.cells #[.int .i64 ((y : Int) - 1)] 3); have D5 := (D3.below ha).turn t5 (by omega); have bn5 := (bn3.below ha).turn t5 (.inl (by omega)); have bp5 := (bp3.below ha).turn t5 (.inl (by omega)); have d5 := bp5.c 1 _ rfl; have f5 := bp5.f; clear d3 f3)
          | fail)
        have ts := turn_set w5 (w.heap.size + 1) 1 (.slice va5 (k + 1) vc5)
        have D6 := D5.turn ts (by omega)
        have bn6 := bn5.turn ts (.inl (by omega))
        have bp6 := bp5.set 1 (.slice va5 (k + 1) vc5)
        have ho6 := ownsRow_setCell_below hown5 (a := ⟨w.heap.size + 1, 1, none⟩) (by show w.heap.size + 1 < w.heap.size + 2; omega) (.slice va5 (k + 1) vc5)
        go_roundw
        case rel => first | exact ⟨k + 1, .slice va5 (k + 1) vc5, zs ++ [(y : Int) - 1], by omega, by go_num, by simp [HL.out], all_snoc' HZ.out (by omega), D6, bn6, bp6, by rw [intVals_snoc]; exact ho6⟩ | ((repeat apply Exists.intro); exact ⟨⟨k + 1, .slice va5 (k + 1) vc5, zs ++ [(y : Int) - 1], by omega, by go_num, by simp [HL.out], all_snoc' HZ.out (by omega), D6, bn6, bp6, by rw [intVals_snoc]; exact ho6⟩, rfl⟩)
        case measure => simp [intOf]; omega
      | false =>
        have d3 := bp2.c 1 _ rfl
        have f3 := bp2.f
        have hps := bp2.lt
        have hsz3 := D2.grown.size
        have HO := Lib.hid ho2
        clear ho2
        go_wp2_with (first
          | (at_builtin; refine wpList_append_own_at _ rfl (.tmp 29) (.tmp 31) 28 rfl (w.heap.size + 2) 3 i0 (.int .i64 0) 1 8 Tryz.underlying28 hi hz0 hz1 hz2 rfl (by decide) _ k _ rfl (HO.out.alloc _) ⟨w2.heap.size, 0, none⟩ 1 1 [.int .i64 ((k : Int) - 1)] rfl rfl (oneCell_at _) (oneCell_int _) (by unfold maxLen; omega) (by omega) (by simp; omega) ?_; intro v5 w5 hown5 hg5 _ hloc; obtain ⟨va5, vc5, rfl, _⟩ := own_shape hown5; have t5 : Turn (w.heap.size + 2) w5.heap.size _ w5 := Turn.of_grown hg5 (fun j hj => ⟨(HO.out.lt j hj).1, by have h2 : j < w2.heap.size := (HO.out.lt j hj).2; have h1 : w2.heap.size + 1 ≤ w5.heap.size := (by have := hg5.size; simpa using this); omega⟩); have ha := (Below.refl w2.heap.size w2).alloc (Nat.le_refl _) (.cells #[.int .i64 ((k : Int) - 1)] 3); have D5 := (D2.below ha).turn t5 (by omega); have bn5 := (bn2.below ha).turn t5 (.inl (by omega)); have bp5 := (bp2.below ha).turn t5 (.inl (by omega)); have d5 := bp5.c 1 _ rfl; have f5 := bp5.f; clear d3 f3)
          | fail)
        have ts := turn_set w5 (w.heap.size + 1) 1 (.slice va5 (k + 1) vc5)
        have D6 := D5.turn ts (by omega)
        have bn6 := bn5.turn ts (.inl (by omega))
        have bp6 := bp5.set 1 (.slice va5 (k + 1) vc5)
        have ho6 := ownsRow_setCell_below hown5 (a := ⟨w.heap.size + 1, 1, none⟩) (by show w.heap.size + 1 < w.heap.size + 2; omega) (.slice va5 (k + 1) vc5)
        go_roundw
        case rel => first | exact ⟨k + 1, .slice va5 (k + 1) vc5, zs ++ [(k : Int) - 1], by omega, by go_num, by simp [HL.out], all_snoc' HZ.out (by omega), D6, bn6, bp6, by rw [intVals_snoc]; exact ho6⟩ | ((repeat apply Exists.intro); exact ⟨⟨k + 1, .slice va5 (k + 1) vc5, zs ++ [(k : Int) - 1], by omega, by go_num, by simp [HL.out], all_snoc' HZ.out (by omega), D6, bn6, bp6, by rw [intVals_snoc]; exact ho6⟩, rfl⟩)
        case measure => simp [intOf]; omega
    · have hk' : k = x := by omega
      have hzl := HL.out
      have hzb := HZ.out
      subst hk'
      subst hzl
      obtain ⟨na, nc, rfl, hnc⟩ := own_shape hown
      have hn := OwnIn.of hown
      have hM : w.heap.size + 2 ≤ wr.heap.size := by have := bp.lt; omega
      clear hown HL HZ hlt
      go_wp2
      generalize hMM : wr.heap.size = M at *
      go_loopw [9] (fun i wr => ∃ (k : Nat) (v : Value) (us : List Int), k ≤ n ∧ i = .int .i64 k ∧ us.length = k ∧ (∀ z ∈ us, -1 ≤ z ∧ z < (zs.length : Int)) ∧ Dg w g wr ∧ BoxL wr w.heap.size [.slice none 0 0, .slice none 0 0] ∧ BoxL wr (w.heap.size + 1) [v, .slice na zs.length nc] ∧
          OwnIn (w.heap.size + 2) M wr 3 1 (.slice na zs.length nc) zs.length (intVals zs) ∧ wr.ownsRow M 3 1 v k (intVals us))
        (fun i _ => n - (intOf i).toNat)
      case atStart => exact ⟨0, _, [], Nat.zero_le _, rfl, rfl, by simp, D, bn, bp, hn, World.ownsRow_nil _ _ _ _⟩
      case round =>
        clear D bn bp hn hMM
        obtain ⟨k, v, us, hk, rfl, hzl, hub, D, bn, bp, hn, hown⟩ := hrel
        have HZ := Lib.hid hub
        have HL := Lib.hid hzl
        clear hub hzl
        by_cases hlt : k < n
        · go_wp2_with fail
          rw [show (zs.length : Int) + 1 = ((zs.length + 1 : Nat) : Int) by omega]
          refine (drawBelow g (zs.length + 1) _ (by omega) (by omega) D.cur).mono ?_
          rintro e w2 ⟨y, hy, rfl, hc2, hw2⟩
          have D2 := D.draw hc2 hw2
          have bn2 := bn.turn (turn_drawn hw2) (.inr (by omega))
          have bp2 := bp.turn (turn_drawn hw2) (.inr (by omega))
          have hn2 := hn.turn (turn_drawn hw2) (.inr (by omega))
          have ho2 := own_other hown hw2 (fun j hj e => by have := (hown.lt j hj).1; have := Option.some.inj e; omega)
          clear D bn bp hn hown hc2 hw2
          by_cases hk0 : k = 0
          · subst hk0
            go_wp2_with fail
            refine (drawOnce g 2 _ (by omega) (by omega) D2.cur).mono ?_
            rintro e w3 ⟨fl, rfl, hc3, hw3⟩
            have D3 := D2.draw hc3 hw3
            have bn3 := bn2.turn (turn_drawn hw3) (.inr (by omega))
            have bp3 := bp2.turn (turn_drawn hw3) (.inr (by omega))
            have hn3 := hn2.turn (turn_drawn hw3) (.inr (by omega))
            have ho3 := own_other ho2 hw3 (fun j hj e => by have := (ho2.lt j hj).1; have := Option.some.inj e; omega)
            clear D2 bn2 bp2 hn2 ho2 hc3 hw3
            cases fl with
            | true =>
              have d3 := bp3.c 0 _ rfl
              have f3 := bp3.f
              have hps := bp3.lt
              have hsz3 := D3.grown.size
              have HO := Lib.hid ho3
              have HN := Lib.hid hn3
              have hnM := hn3.1
              clear ho3 hn3
              go_wp2_with (first
                | (at_builtin; refine wpList_append_own_at _ rfl (.tmp 53) (.tmp 55) 28 rfl M 3 i0 (.int .i64 0) 1 8 Tryz.underlying28 hi hz0 hz1 hz2 rfl (by decide) _ 0 _ rfl (HO.out.alloc _) ⟨w3.heap.size, 0, none⟩ 1 1 [.int .i64 ((zs.length : Int) - 1)] rfl rfl (oneCell_at _) (oneCell_int _) (by unfold maxLen; omega) (by omega) (by simp; omega) ?_; intro v5 w5 hown5 hg5 _ hloc; obtain ⟨va5, vc5, rfl, _⟩ := own_shape hown5; have t5 : Turn M w5.heap.size _ w5 := Turn.of_grown hg5 (fun j hj => ⟨(HO.out.lt j hj).1, by have h2 : j < w3.heap.size := (HO.out.lt j hj).2; have h1 : w3.heap.size + 1 ≤ w5.heap.size := (by have := hg5.size; simpa using this); omega⟩); have ha := (Below.refl w3.heap.size w3).alloc (Nat.le_refl _) (.cells #[.int .i64 ((zs.length : Int) - 1)] 3); have D5 := (D3.below ha).turn t5 (by omega); have bn5 := (bn3.below ha).turn t5 (.inl (by omega)); have bp5 := (bp3.below ha).turn t5 (.inl (by omega)); have n5 := (HN.out.below ha).turn t5 (.inl (Nat.le_refl _)); have d5 := bp5.c 0 _ rfl; have f5 := bp5.f; clear d3 f3)
                | fail)
              have ts := turn_set w5 (w.heap.size + 1) 0 (.slice va5 (0 + 1) vc5)
              have D6 := D5.turn ts (by omega)
              have bn6 := bn5.turn ts (.inl (by omega))
              have bp6 := bp5.set 0 (.slice va5 (0 + 1) vc5)
              have n6 := n5.turn ts (.inr (by omega))
              have ho6 := ownsRow_setCell_below hown5 (a := ⟨w.heap.size + 1, 0, none⟩) (by show w.heap.size + 1 < M; omega) (.slice va5 (0 + 1) vc5)
              go_roundw
              case rel => first | exact ⟨0 + 1, .slice va5 (0 + 1) vc5, us ++ [(zs.length : Int) - 1], by omega, by go_num, by simp [HL.out], all_snoc' HZ.out (by omega), D6, bn6, bp6, n6, by rw [intVals_snoc]; exact ho6⟩ | ((repeat apply Exists.intro); exact ⟨⟨0 + 1, .slice va5 (0 + 1) vc5, us ++ [(zs.length : Int) - 1], by omega, by go_num, by simp [HL.out], all_snoc' HZ.out (by omega), D6, bn6, bp6, n6, by rw [intVals_snoc]; exact ho6⟩, rfl⟩)
              case measure => first | (simp [intOf]; done) | (simp [intOf]; omega)
            | false =>
              have d3 := bp3.c 0 _ rfl
              have f3 := bp3.f
              have hps := bp3.lt
              have hsz3 := D3.grown.size
              have HO := Lib.hid ho3
              have HN := Lib.hid hn3
              have hnM := hn3.1
              clear ho3 hn3
              go_wp2_with (first
                | (at_builtin; refine wpList_append_own_at _ rfl (.tmp 53) (.tmp 55) 28 rfl M 3 i0 (.int .i64 0) 1 8 Tryz.underlying28 hi hz0 hz1 hz2 rfl (by decide) _ 0 _ rfl (HO.out.alloc _) ⟨w3.heap.size, 0, none⟩ 1 1 [.int .i64 ((y : Int) - 1)] rfl rfl (oneCell_at _) (oneCell_int _) (by unfold maxLen; omega) (by omega) (by simp; omega) ?_; intro v5 w5 hown5 hg5 _ hloc; obtain ⟨va5, vc5, rfl, _⟩ := own_shape hown5; have t5 : Turn M w5.heap.size _ w5 := Turn.of_grown hg5 (fun j hj => ⟨(HO.out.lt j hj).1, by have h2 : j < w3.heap.size := (HO.out.lt j hj).2; have h1 : w3.heap.size + 1 ≤ w5.heap.size := (by have := hg5.size; simpa using this); omega⟩); have ha := (Below.refl w3.heap.size w3).alloc (Nat.le_refl _) (.cells #[.int .i64 ((y : Int) - 1)] 3); have D5 := (D3.below ha).turn t5 (by omega); have bn5 := (bn3.below ha).turn t5 (.inl (by omega)); have bp5 := (bp3.below ha).turn t5 (.inl (by omega)); have n5 := (HN.out.below ha).turn t5 (.inl (Nat.le_refl _)); have d5 := bp5.c 0 _ rfl; have f5 := bp5.f; clear d3 f3)
                | fail)
              have ts := turn_set w5 (w.heap.size + 1) 0 (.slice va5 (0 + 1) vc5)
              have D6 := D5.turn ts (by omega)
              have bn6 := bn5.turn ts (.inl (by omega))
              have bp6 := bp5.set 0 (.slice va5 (0 + 1) vc5)
              have n6 := n5.turn ts (.inr (by omega))
              have ho6 := ownsRow_setCell_below hown5 (a := ⟨w.heap.size + 1, 0, none⟩) (by show w.heap.size + 1 < M; omega) (.slice va5 (0 + 1) vc5)
              go_roundw
              case rel => first | exact ⟨0 + 1, .slice va5 (0 + 1) vc5, us ++ [(y : Int) - 1], by omega, by go_num, by simp [HL.out], all_snoc' HZ.out (by omega), D6, bn6, bp6, n6, by rw [intVals_snoc]; exact ho6⟩ | ((repeat apply Exists.intro); exact ⟨⟨0 + 1, .slice va5 (0 + 1) vc5, us ++ [(y : Int) - 1], by omega, by go_num, by simp [HL.out], all_snoc' HZ.out (by omega), D6, bn6, bp6, n6, by rw [intVals_snoc]; exact ho6⟩, rfl⟩)
              case measure => first | (simp [intOf]; done) | (simp [intOf]; omega)
          · have hkb : ((k : Int) == 0) = false := by simp; omega
            have d3 := bp2.c 0 _ rfl
            have f3 := bp2.f
            have hps := bp2.lt
            have hsz3 := D2.grown.size
            have HO := Lib.hid ho2
            have HN := Lib.hid hn2
            have hnM := hn2.1
            clear ho2 hn2
            go_wp2_with (first
              | (at_builtin; refine wpList_append_own_at _ rfl (.tmp 53) (.tmp 55) 28 rfl M 3 i0 (.int .i64 0) 1 8 Tryz.underlying28 hi hz0 hz1 hz2 rfl (by decide) _ k _ rfl (HO.out.alloc _) ⟨w2.heap.size, 0, none⟩ 1 1 [.int .i64 ((y : Int) - 1)] rfl rfl (oneCell_at _) (oneCell_int _) (by unfold maxLen; omega) (by omega) (by simp; omega) ?_; intro v5 w5 hown5 hg5 _ hloc; obtain ⟨va5, vc5, rfl, _⟩ := own_shape hown5; have t5 : Turn M w5.heap.size _ w5 := Turn.of_grown hg5 (fun j hj => ⟨(HO.out.lt j hj).1, by have h2 : j < w2.heap.size := (HO.out.lt j hj).2; have h1 : w2.heap.size + 1 ≤ w5.heap.size := (by have := hg5.size; simpa using this); omega⟩); have ha := (Below.refl w2.heap.size w2).alloc (Nat.le_refl _) (.cells #[.int .i64 ((y : Int) - 1)] 3); have D5 := (D2.below ha).turn t5 (by omega); have bn5 := (bn2.below ha).turn t5 (.inl (by omega)); have bp5 := (bp2.below ha).turn t5 (.inl (by omega)); have n5 := (HN.out.below ha).turn t5 (.inl (Nat.le_refl _)); have d5 := bp5.c 0 _ rfl; have f5 := bp5.f; clear d3 f3)
              | fail)
            have ts := turn_set w5 (w.heap.size + 1) 0 (.slice va5 (k + 1) vc5)
            have D6 := D5.turn ts (by omega)
            have bn6 := bn5.turn ts (.inl (by omega))
            have bp6 := bp5.set 0 (.slice va5 (k + 1) vc5)
            have n6 := n5.turn ts (.inr (by omega))
            have ho6 := ownsRow_setCell_below hown5 (a := ⟨w.heap.size + 1, 0, none⟩) (by show w.heap.size + 1 < M; omega) (.slice va5 (k + 1) vc5)
            go_roundw
            case rel => first | exact ⟨k + 1, .slice va5 (k + 1) vc5, us ++ [(y : Int) - 1], by omega, by go_num, by simp [HL.out], all_snoc' HZ.out (by omega), D6, bn6, bp6, n6, by rw [intVals_snoc]; exact ho6⟩ | ((repeat apply Exists.intro); exact ⟨⟨k + 1, .slice va5 (k + 1) vc5, us ++ [(y : Int) - 1], by omega, by go_num, by simp [HL.out], all_snoc' HZ.out (by omega), D6, bn6, bp6, n6, by rw [intVals_snoc]; exact ho6⟩, rfl⟩)
            case measure => simp [intOf]; omega
        · have hk' : k = n := by omega
          have hul := HL.out
          have hub := HZ.out
          subst hul
          obtain ⟨va, vc, rfl, hvc⟩ := own_shape hown
          have hO := OwnIn.of hown
          have d0 := bp.c 0 _ rfl
          have d1 := bp.c 1 _ rfl
          have hg := show goodH us zs = true by rw [goodH, goodB_of hub, goodB_of hzb]; rfl
          have e1 : (canonVs us zs).length = n := by simp only [canonVs, hg, if_true, canonV, List.length_map]; exact hk'
          have e2 : (canonNs us zs).length ≤ 5 := by have := (order_end us zs).len; simp only [canonNs, hg, if_true, canonN, List.length_map]; omega
          have E1 := Lib.hid e1
          have E2 := Lib.hid e2
          have HK := Lib.hid hk'
          clear e1 e2 hg HL HZ hown hk'
          go_wp2_with fail
          refine (specCanonHeap va na vc nc us zs _ (by omega) (by omega) ⟨hO.row, hn.row⟩).mono ?_
          rintro e w3 ⟨pa, pca, pb, pcb, rfl, hin, hb3⟩
          have bn3 := bn.below hb3
          have r0 := bn3.c 0 _ rfl
          have r1 := bn3.c 1 _ rfl
          have rf := bn3.f
          have D3 := D.below hb3
          have hsz : w.heap.size + 1 < wr.heap.size := bp.lt
          clear d0 d1 bn bp hn hO bn3 D
          go_wp2
          refine bodyPost_ret (v := heV pa (canonVs us zs).length pca pb (canonNs us zs).length pcb) (by simp [results, Tryz.results45, go_sem, r0, r1]) rfl ?_
          have tq : Turn w.heap.size (w.heap.size + 1) w3 ((w3.setCell ⟨w.heap.size, 0, none⟩ (.slice pa (canonVs us zs).length pca)).setCell ⟨w.heap.size, 1, none⟩ (.slice pb (canonNs us zs).length pcb)) := (turn_set _ _ _ _).trans (turn_set _ _ _ _)
          refine ⟨pa, pca, pb, pcb, canonVs us zs, canonNs us zs, rfl, E1.out, E2.out, ?_, D3.turn tq (Nat.le_refl _)⟩
          exact (hin.turn tq (.inr (by omega))).mono (by omega) (by simp) (Nat.le_refl _)

end Go.Proofs.YtpmmjaceehlpiaaGreatDoor
/-
  The model's draw of a list of heaps that a run starts from.
-/
namespace Go.Proofs.YtpmmjaceehlpiaaGreatDoor
open Go Go.RowKit Go.ChangeShapes Go.WideShapes

theorem in_turn9 {lo lo' hi' : Nat} {W W' : World} {hs : List Hp} (h : HeapsIn lo W hs) (t : Turn lo' hi' W W') (hd : ∀ k, lo ≤ k → k < lo' ∨ hi' ≤ k) : HeapsIn lo W' hs :=
  h.same t.size fun _ hx k hk => t.block k (h.has_lt hx hk).2 (hd k (h.has_lt hx hk).1)
theorem own_turn9 {lo' hi' base e size n : Nat} {v : Value} {xs : List Value} {W W' : World} (h : W.ownsRow base e size v n xs) (t : Turn lo' hi' W W') (hd : ∀ k, base ≤ k → k < lo' ∨ hi' ≤ k) : W'.ownsRow base e size v n xs := by
  refine ⟨h.1, h.2.imp id ?_⟩
  rintro ⟨g, cap, cur, rfl, hb, hgc, r⟩
  exact ⟨g, cap, cur, rfl, hb, (t.block g (h.lt g rfl).2 (hd g (h.lt g rfl).1)).trans hgc, r⟩
theorem outB_turn {w0 wr W' : World} {lo' hi' : Nat} {bs : List (List Int × List Int)} {v : Value} {hs : List Hp} {kb : Nat} (h : OutB w0 bs v wr hs kb) (t : Turn lo' hi' wr W') (hd : hi' ≤ w0.heap.size) : OutB w0 bs v W' hs kb :=
  ⟨h.body, own_turn9 h.own t fun _ hk => .inr (by omega), in_turn9 h.ins t fun _ hk => .inr (by omega), h.off, h.blk⟩
theorem turn_one {k0 : Nat} {W W' : World} (h : Only (fun k => k = k0) W W') : Turn k0 (k0 + 1) W W' :=
  ⟨h.os, h.tape, h.output, h.size, fun k hk hd => h.block k hk fun e => by omega⟩
/-- A list of one heap or two, drawn. -/
def StartEnd (n g : Nat) (w : World) (e : Ending) (w' : World) : Prop :=
  ∃ a c hs, e = .returned (.slice a hs.length c) ∧ hs.length ≤ 2 ∧ (∀ x ∈ hs, x.vs.length = n ∧ x.zs.length ≤ 5) ∧ w'.ownsRow w.heap.size 30 2 (.slice a hs.length c) hs.length (hpVals hs) ∧ HeapsIn w.heap.size w' hs ∧ Dg w g w'

set_option maxRecDepth 100000 in
set_option maxHeartbeats 3200000 in
theorem drawStart (g : Nat) (va : Option Addr) (ca n : Nat) (p : Int) (vb : Option Addr) (m cb : Nat) (w : World) (hn4 : n ≤ 4) (hcur : Cur w g) :
    Calls Tryz.prog 61 #[.pointer (some ⟨g, 0, none⟩), .agg #[.slice va n ca, .int .i64 p, .slice vb m cb]] w (StartEnd n g w) := by
  obtain ⟨i0, hi9, hz0, hz1, hz2⟩ := info_parts heapInfo
  have hg0 := hcur.lt
  go_enter Tryz.func61, Tryz.ntmps61
  obtain ⟨W0, hW0, bx0, hb0, hz0w⟩ : ∃ W, w.alloc (.cells #[.slice va n ca, .int .i64 p, .slice vb m cb] 27) = W ∧ BoxL W w.heap.size [.slice va n ca, .int .i64 p, .slice vb m cb] ∧ Below w.heap.size w W ∧ (w.heap.size + 1 ≤ W.heap.size ∧ W.heap.size ≤ w.heap.size + 1) :=
    ⟨_, rfl, BoxL.new w [.slice va n ca, .int .i64 p, .slice vb m cb] 27, (Below.refl _ _).alloc (Nat.le_refl _) _, by simp, by simp⟩
  have ho0 := World.ownsRow_made (e := 30) (size := 2) (base := W0.heap.size) W0 #[] 0 (Nat.le_refl _) (Nat.zero_le _) rfl
  have hb1 := (Below.refl W0.heap.size W0).alloc (Nat.le_refl _) (.cells #[] 30)
  have hO0 : OutB W0 [] (.slice (some ⟨W0.heap.size, 0, none⟩) 0 0) (W0.alloc (.cells #[] 30)) [] W0.heap.size := ⟨rfl, ho0, HeapsIn.nil, fun x hx => by simp at hx, rfl⟩
  obtain ⟨W1, hW1⟩ : ∃ W, W0.alloc (.cells #[] 30) = W := ⟨_, rfl⟩
  rw [hW1] at hb1 hO0
  have D1 := ((Dg.start hcur).below hb0).below hb1
  have bx1 := bx0.below hb1
  clear ho0 hb0 hb1 bx0
  go_wp2_with fail
  clear hW0 hW1
  refine (drawBelow g 2 _ (by omega) (by omega) D1.cur).mono ?_
  rintro e w2 ⟨x, hx, rfl, hc2, hw2⟩
  have D2 := D1.draw hc2 hw2
  have bx2 := bx1.turn (turn_drawn hw2) (.inr (by omega))
  have HO2 := Lib.hid (outB_turn hO0 (turn_drawn hw2) (by omega))
  clear D1 bx1 hO0 hc2 hw2
  go_wp2
  go_loopw [5, 7] (fun u i wr => ∃ (k : Nat) (bs : List (List Int × List Int)) (hs : List Hp) (kb : Nat), k ≤ x + 1 ∧ i = .int .i64 (k : Int) ∧ bs.length = k ∧ (∀ b ∈ bs, b.1.length = n ∧ b.2.length ≤ 5) ∧ OutB W0 bs u wr hs kb ∧ BoxL wr w.heap.size [.slice va n ca, .int .i64 p, .slice vb m cb] ∧ Dg w g wr) (fun _ i _ => x + 1 - (intOf i).toNat)
  case atStart => exact ⟨0, [], [], _, Nat.zero_le _, rfl, rfl, by simp, HO2.out, bx2, D2⟩
  case round =>
    clear D2 bx2 HO2
    obtain ⟨k, bs, hs, kb, hk, rfl, hbl, hbn, hO, bx, D⟩ := hrel
    have hhl : hs.length = bs.length := by rw [← hO.body, List.length_map]
    obtain ⟨ua, uc, rfl, _⟩ := own_shape hO.own
    by_cases hlt : k < x + 1
    · have b0 := bx.c 0 _ rfl
      have HBN := Lib.hid hbn
      have HBL := Lib.hid hbl
      have HHL := Lib.hid hhl
      clear hbn hbl hhl
      go_wp2_with fail
      refine (drawHeapN n hn4 g _ D.cur).mono ?_
      rintro e w6 ⟨a6, c6, b6, d6, us, zs, rfl, hul, hzl, hin6, D6⟩
      subst hul
      have t6 := turn_drawn D6.grown
      have HO6 := Lib.hid (outB_turn hO t6 (by omega))
      have bx6 := bx.turn t6 (.inr (by omega))
      have DD := D.draw D6.cur D6.grown
      have hz6 := D6.grown.size
      have hkbl := hO.own.lt kb hO.blk
      have hsl : hs.length ≤ 2 := by have := HHL.out; have := HBL.out; omega
      have HIB := Lib.hid (show ∀ z ∈ hs, ∀ q, z.has q → q < wr.heap.size from fun z hz q hq => (hO.ins.has_lt hz hq).2)
      clear b0 bx D D6 t6 hO
      go_wp2_with (first
        | (at_builtin; refine wpList_append_own_at _ rfl (.tmp 17) (.tmp 23) 38 rfl W0.heap.size 30 i0 (.agg #[.slice none 0 0, .slice none 0 0]) 2 48 Tryz.underlying38 hi9 hz0 hz1 hz2 rfl (by decide) _ hs.length (hpVals hs) rfl (HO6.out.own.alloc _) ⟨w6.heap.size, 0, none⟩ 1 1 [.slice a6 us.length c6, .slice b6 zs.length d6] rfl rfl ?_ ?_ ?_ ?_ ?_ ?_; (focus exact lit2_news _ _ _ _); (focus exact lit2_one _ _ _ _ _ _); (focus (unfold maxLen; omega)); (focus omega); (focus (simp; omega)); intro v7 w7 hown7 hg7 _ hloc7; have HO7 := Lib.hid hown7; have HG7 := Lib.hid hg7; have HL7 := Lib.hid hloc7; clear hown7 hg7 hloc7)
        | fail)
      go_roundw
      case rel =>
        have hg7 : (w6.alloc (.cells #[.slice a6 us.length c6, .slice b6 zs.length d6] 30)).grownBy w7 (some kb) := by
          have h : (w6.alloc (.cells #[.slice a6 us.length c6, .slice b6 zs.length d6] 30)).grownBy w7 (Value.slice ua hs.length uc).ownBlock := HG7.out
          rw [HO6.out.blk] at h
          exact h
        have hl7 : v7.ownBlock = some kb ∨ v7.ownBlock = some (w6.alloc (.cells #[.slice a6 us.length c6, .slice b6 zs.length d6] 30)).heap.size := by
          have h : v7.ownBlock = (Value.slice ua hs.length uc).ownBlock ∨ v7.ownBlock = some (w6.alloc (.cells #[.slice a6 us.length c6, .slice b6 zs.length d6] 30)).heap.size := HL7.out
          rw [HO6.out.blk] at h
          exact h
        have ha := (Below.refl w6.heap.size w6).alloc (Nat.le_refl _) (.cells #[.slice a6 us.length c6, .slice b6 zs.length d6] 30)
        have hN : Hp.In wr.heap.size w6.heap.size w6 ⟨a6, c6, b6, d6, us, zs⟩ := hin6
        have hN' : Hp.In W0.heap.size (w6.alloc (.cells #[.slice a6 us.length c6, .slice b6 zs.length d6] 30)).heap.size (w6.alloc (.cells #[.slice a6 us.length c6, .slice b6 zs.length d6] 30)) ⟨a6, c6, b6, d6, us, zs⟩ :=
          (hN.same ha.size (fun q hq => ha.block q (hN.has_lt hq).2)).mono (by omega) ha.size (Nat.le_refl _)
        have hbel := HIB.out
        obtain ⟨hs', kb', h7, _, h9⟩ := outH_next (x := ⟨a6, c6, b6, d6, us, zs⟩) (HO6.out.below ha) (.inl rfl) (Only.refl (S := fun k => k = kb)) hN'
          (fun z hz q hq hq2 => by have := hbel z hz q hq; have := (hN.has_lt hq2).1; omega) (fun hq => by have := (hN.has_lt hq).1; omega) HO7.out hg7 (hl7.imp id fun e => ⟨_, e, Nat.le_refl _⟩)
        have tk := turn_one h9
        exact ⟨k + 1, bs ++ [(us, zs)], hs', kb', by omega, by go_num, by rw [List.length_append, HBL.out]; rfl, fun b hb => by
          rcases List.mem_append.1 hb with hb | hb
          · exact HBN.out b hb
          · obtain rfl : b = (us, zs) := by simpa using hb
            exact ⟨rfl, hzl⟩, h7, (bx6.below ha).turn tk (.inl (by omega)), (DD.below ha).turn tk (by omega)⟩
      case measure => simp [intOf]; omega
    · have hke : k = x + 1 := by omega
      have HE := Lib.hid (show StartEnd n g w (.returned (.slice ua hs.length uc)) wr from
        ⟨ua, uc, hs, rfl, by omega, fun y hy => by
          have hm : y.body ∈ bs := hO.body ▸ List.mem_map_of_mem hy
          exact hbn _ hm, own_base hO.own (by omega), hO.ins.mono (by omega), D⟩)
      clear hO bx D hbn
      go_wp2
      go_ret
      exact HE.out
end Go.Proofs.YtpmmjaceehlpiaaGreatDoor
/-
  The draw of a program and of a list of heaps that a run starts from.
-/
namespace Go.Proofs.YtpmmjaceehlpiaaGreatDoor
open Go Go.RowKit Go.ChangeShapes Go.WideShapes

theorem rw_in {lo hi : Nat} {W : World} {a : Option Addr} {xs : List Value} (h : Rw lo hi W a xs) (hh : hi ≤ W.heap.size) : RowIn lo hi W a xs := ⟨hh, h⟩
/-- A program and a list of heaps, drawn. -/
def SomeStart (w : World) (e : Ending) (w' : World) : Prop :=
  ∃ a ca b cb ss p es ha hc hs, Small ss p es ∧ e = .returned (.tuple #[progV a ss.length ca p b es.length cb, .slice ha hs.length hc]) ∧ hs.length ≤ 2 ∧ (∀ x ∈ hs, x.vs.length ≤ 4 ∧ x.zs.length ≤ 5) ∧
    Row w' w'.heap.size a (strVals ss) ∧ Row w' w'.heap.size b (edVals es) ∧ HeapsAt w' ha hs ∧ (∀ x ∈ hs, (x.a = none → x.ca = 0) ∧ (x.b = none → x.cb = 0)) ∧ Below w.heap.size w w'
theorem start_end {w W V : World} {lo lo1 hi1 lo2 hi2 : Nat} {a b ha : Option Addr} {ca cb hc : Nat} {ss : List ByteArray} {p : Int} {es : List Ed} {hs : List Hp} (hB : Below w.heap.size w W) (hsz : w.heap.size ≤ W.heap.size) (hS : Small ss p es) (hl : hs.length ≤ 2) (hx : ∀ x ∈ hs, x.vs.length ≤ 4 ∧ x.zs.length ≤ 5)
    (h1 : RowIn lo1 hi1 W a (strVals ss)) (h2 : RowIn lo2 hi2 W b (edVals es)) (ho : W.ownsRow lo 30 2 (.slice ha hs.length hc) hs.length (hpVals hs)) (hi : HeapsIn lo W hs) (hlo : w.heap.size < lo) (hl1 : w.heap.size < lo1) (hl2 : w.heap.size < lo2)
    (t : Turn w.heap.size (w.heap.size + 1) W V) : SomeStart w (.returned (.tuple #[progV a ss.length ca p b es.length cb, .slice ha hs.length hc])) V := by
  have ho' := own_turn9 ho t fun _ hk => .inr (by omega)
  have hi' := in_turn9 hi t fun _ hk => .inr (by omega)
  exact ⟨a, ca, b, cb, ss, p, es, ha, hc, hs, hS, rfl, hl, hx, (h1.turn t (.inr (by omega))).row, (h2.turn t (.inr (by omega))).row, ⟨Row.ownedN ho', fun _ hm => hi'.at_ hm⟩, fun y hm => ⟨own_none (hi'.each y hm).v.2.1, own_none (hi'.each y hm).z.2.1⟩, t.below hB (Nat.le_refl _) hsz⟩
theorem three_turn (W : World) (b : Nat) (u0 u1 u2 : Value) : Turn b (b + 1) W (((W.setCell ⟨b, 0, none⟩ u0).setCell ⟨b, 1, none⟩ u1).setCell ⟨b, 2, none⟩ u2) := ((turn_set _ _ _ _).trans (turn_set _ _ _ _)).trans (turn_set _ _ _ _)
set_option maxRecDepth 100000 in
set_option maxHeartbeats 3200000 in
theorem drawStatesFrom (a : Option Addr) (n cap : Nat) (w : World) (hn : n ≤ 1099511627776) (hcode : Code8 w w.heap.size n a) : Calls Tryz.prog 11 #[.slice a n cap] w (SomeStart w) := by
  go_enter Tryz.func11, Tryz.ntmps11
  obtain ⟨W0, hW0, bn0, hb0, hz0⟩ : ∃ W, w.alloc (.cells #[.slice none 0 0, .int .i64 0, .slice none 0 0] 27) = W ∧ BoxL W w.heap.size [.slice none 0 0, .int .i64 0, .slice none 0 0] ∧ Below w.heap.size w W ∧ w.heap.size < W.heap.size :=
    ⟨_, rfl, BoxL.new w [.slice none 0 0, .int .i64 0, .slice none 0 0] 27, (Below.refl _ _).alloc (Nat.le_refl _) _, by simp⟩
  go_wp2_with fail
  clear hW0
  refine (drawNew a n cap _ hn ((hcode.keeps fun p hp => hb0.cell hp).grow hb0.size)).mono ?_
  rintro e w1 ⟨g, rfl, hg, hc1, hb1⟩
  have bn1 := bn0.below hb1
  have hB1 := hb0.trans (hb1.mono hb0.size)
  have hz1 := hb1.size
  have hg1 := hc1.lt
  clear bn0 hb0 hb1
  go_wp2_with fail
  refine (drawProg g _ hc1).mono ?_
  rintro e w2 ⟨ra, rc, rb, rd, ss, p, es, hS, hsl4, _, _, rfl, hna, hnb, h1, h2, hc2, hw2⟩
  have bn2 := bn1.turn (turn_drawn hw2) (.inl (by omega))
  have hB2 := below_only hB1 hw2 hB1.size (by omega)
  have h12 := hw2.size
  have hi1 := rw_in h1 (Nat.le_refl _)
  have hi2 := rw_in h2 (Nat.le_refl _)
  clear bn1 hB1 h1 h2 hw2 hna hnb
  obtain ⟨W2, hW2, bp2, hal2, hz2⟩ : ∃ W, w2.alloc (.cells #[.slice ra ss.length rc, .int .i64 p, .slice rb es.length rd] 27) = W ∧ BoxL W w2.heap.size [.slice ra ss.length rc, .int .i64 p, .slice rb es.length rd] ∧ Below w2.heap.size w2 W ∧ w2.heap.size < W.heap.size :=
    ⟨_, rfl, BoxL.new w2 [.slice ra ss.length rc, .int .i64 p, .slice rb es.length rd] 27, (Below.refl _ _).alloc (Nat.le_refl _) _, by simp⟩
  have bn3 := bn2.below hal2
  have hc3 := hc2.keeps hal2
  have hB3 := hB2.trans (hal2.mono hB2.size)
  have hj1 := hi1.below hal2
  have hj2 := hi2.below hal2
  have p0 := bp2.c 0 _ rfl
  have p1 := bp2.c 1 _ rfl
  have p2 := bp2.c 2 _ rfl
  have HS := Lib.hid hS
  have hgp : g < w2.heap.size := hc2.lt
  clear bn2 hB2 hi1 hi2 hc2 hS
  go_wp2_with fail
  clear hW2 hal2 p0 p1 p2
  refine (drawStart g ra rc ss.length p rb es.length rd _ hsl4 hc3).mono ?_
  rintro e w4 ⟨ha, hc, hs, rfl, hhl, hhx, ho4, hi4, D4⟩
  have t4 := turn_drawn D4.grown
  have bn4 := bn3.turn t4 (.inl (by omega))
  have bp4 := bp2.turn t4 (.inr (by omega))
  have hk1 := hj1.turn t4 (.inr (by omega))
  have hk2 := hj2.turn t4 (.inr (by omega))
  have hB4 := below_only hB3 D4.grown hB3.size (by omega)
  have h34 := D4.grown.size
  have hc4 := D4.cur
  have HHX := Lib.hid (show ∀ x ∈ hs, x.vs.length ≤ 4 ∧ x.zs.length ≤ 5 from fun x hx => by have := hhx x hx; omega)
  clear bn3 bp2 hj1 hj2 hB3 D4 t4 hhx
  go_wp2_with fail
  refine (drawOnce g 12 _ (by omega) (by omega) hc4).mono ?_
  rintro e w5 ⟨fl, rfl, hc5, hw5⟩
  have t5 := turn_drawn hw5
  have bn5 := bn4.turn t5 (.inl (by omega))
  have bp5 := bp4.turn t5 (.inr (by omega))
  have hk15 := hk1.turn t5 (.inr (by omega))
  have hk25 := hk2.turn t5 (.inr (by omega))
  have ho5 := own_turn9 ho4 t5 (fun _ hk => .inr (by omega))
  have hi5 := in_turn9 hi4 t5 (fun _ hk => .inr (by omega))
  have hB5 := below_only hB4 hw5 hB4.size (by omega)
  have h45 := hw5.size
  clear bn4 bp4 hk1 hk2 hB4 t5 ho4 hi4
  cases fl with
  | true =>
    go_wp2_with fail
    refine (drawBentProg g _ hc5).mono ?_
    rintro e w6 ⟨sa, sc, sb, sd, tt, p', fs, hS6, _, rfl, _, _, h1, h2, hc6, hw6⟩
    have t6 := turn_drawn hw6
    have bn6 := bn5.turn t6 (.inl (by omega))
    have bp6 := bp5.turn t6 (.inr (by omega))
    have ho6 := own_turn9 ho5 t6 (fun _ hk => .inr (by omega))
    have hi6 := in_turn9 hi5 t6 (fun _ hk => .inr (by omega))
    have hB6 := below_only hB5 hw6 hB5.size (by omega)
    have h56 := hw6.size
    have tp := three_turn w6 w2.heap.size (.slice sa tt.length sc) (.int .i64 p') (.slice sb fs.length sd)
    have bq := ((bp6.set 0 (.slice sa tt.length sc)).set 1 (.int .i64 p')).set 2 (.slice sb fs.length sd)
    obtain ⟨V, hV⟩ : ∃ V, ((w6.setCell ⟨w2.heap.size, 0, none⟩ (.slice sa tt.length sc)).setCell ⟨w2.heap.size, 1, none⟩ (.int .i64 p')).setCell ⟨w2.heap.size, 2, none⟩ (.slice sb fs.length sd) = V := ⟨_, rfl⟩
    have pc0 := bp6.c 0 _ rfl
    have pc1 := bp6.c 1 _ rfl
    have pc2 := bp6.c 2 _ rfl
    have pf := bp6.f
    rw [hV] at tp bq
    have bnV := bn6.turn tp (.inl (by omega))
    have hoV := own_turn9 ho6 tp (fun _ hk => .inr (by omega))
    have hiV := in_turn9 hi6 tp (fun _ hk => .inr (by omega))
    have hBV := tp.below hB6 (by omega) hB6.size
    have r1 := (rw_in h1 (Nat.le_refl _)).turn tp (.inr (by omega))
    have r2 := (rw_in h2 (Nat.le_refl _)).turn tp (.inr (by omega))
    have HE := Lib.hid (fun U t => start_end (V := U) (ca := sc) (cb := sd) hBV hBV.size hS6 hhl HHX.out r1 r2 hoV hiV (by omega) (by omega) (by omega) t)
    have q0 := bq.c 0 _ rfl
    have q1 := bq.c 1 _ rfl
    have q2 := bq.c 2 _ rfl
    have n0 := bnV.c 0 _ rfl
    have n1 := bnV.c 1 _ rfl
    have n2 := bnV.c 2 _ rfl
    have nf := bnV.f
    clear bn5 bp5 bn6 bp6 ho5 ho6 hi5 hi6 hB5 hB6 tp bq bnV hoV hiV hBV r1 r2 h1 h2 hw6 t6 hk15 hk25 hw5
    go_wp2
    exact bodyPost_ret (v := .tuple #[progV sa tt.length sc p' sb fs.length sd, .slice ha hs.length hc]) (by simp [results, Tryz.results11, go_sem, n0, n1, n2]) rfl (HE.out _ (three_turn _ _ _ _ _))
  | false =>
    have HE := Lib.hid (fun U t => start_end (V := U) (ca := rc) (cb := rd) hB5 hB5.size HS.out hhl HHX.out hk15 hk25 ho5 hi5 (by omega) (by omega) (by omega) t)
    have q0 := bp5.c 0 _ rfl
    have q1 := bp5.c 1 _ rfl
    have q2 := bp5.c 2 _ rfl
    have n0 := bn5.c 0 _ rfl
    have n1 := bn5.c 1 _ rfl
    have n2 := bn5.c 2 _ rfl
    have nf := bn5.f
    clear bn5 bp5 ho5 hi5 hB5 hk15 hk25 hw5
    go_wp2
    exact bodyPost_ret (v := .tuple #[progV ra ss.length rc p rb es.length rd, .slice ha hs.length hc]) (by simp [results, Tryz.results11, go_sem, n0, n1, n2]) rfl (HE.out _ (three_turn _ _ _ _ _))
end Go.Proofs.YtpmmjaceehlpiaaGreatDoor
