/-
  The draws of chapter 7: a heap, one that is bent: of what is drawn only the range is told.
-/
import Derived.Deep.RegionLaw
import Derived.Deep.AppendLies
import Derived.Test.YtglcailcdcpadaaGreatDoorZ06
import Derived.Test.YtglcailcdcpadaaGreatDoorZ32
namespace Go.Proofs.YtglcailcdcpadaaGreatDoor
open Go Go.RowKit

/-- A heap, drawn. -/
def HeapDrawn (g : Nat) (w : World) (e : Ending) (w' : World) : Prop :=
  ∃ a ca b cb vs zs, e = .returned (heV a vs.length ca b zs.length cb) ∧ vs.length = 3 ∧ zs.length ≤ 5 ∧ HeapIn w.heap.size w'.heap.size w' a ca b cb (intVals vs) (intVals zs) ∧ Dg w g w'
theorem all_snoc' {P : Int → Prop} {l : List Int} {x : Int} (h : ∀ z ∈ l, P z) (hx : P x) : ∀ z ∈ l ++ [x], P z := fun z hz => by
  rcases List.mem_append.1 hz with hz | hz
  · exact h z hz
  · simp at hz; subst hz; exact hx
theorem wrap_two {z : Nat} (h : z ≤ 9223372036854775807) : IntKind.i64.wrap ((z : Int) - 2) = (z : Int) - 2 := by
  rw [IntKind.wrap_i64]; omega
theorem wrap_plus {z : Nat} (h : z ≤ 9223372036854775805) : IntKind.i64.wrap (2 + (z : Int)) = 2 + (z : Int) := by
  rw [IntKind.wrap_i64]; omega
theorem goodB_of {zs l : List Int} (h : ∀ z ∈ l, -1 ≤ z ∧ z < (zs.length : Int)) : goodB zs l = true := by
  rw [goodB, List.all_eq_true]
  intro z hz
  have := h z hz
  by_cases h1 : z = -1
  · simp [h1]
  · have : isC zs z = true := isC_iff.2 (by omega)
    simp [this]

set_option maxRecDepth 100000 in
set_option maxHeartbeats 3200000 in
theorem drawHeap (g : Nat) (w : World) (hcur : Cur w g) : Calls Tryz.prog 105 #[.pointer (some ⟨g, 0, none⟩), .int .i64 3] w (HeapDrawn g w) := by
  obtain ⟨i0, hi, hz0, hz1, hz2⟩ := info_parts intInfo
  have hg0 := hcur.lt
  go_enter Tryz.func105, Tryz.ntmps105
  go_wp2_with fail
  obtain ⟨W0, hW0, hb0, bn0, bp0⟩ := two_boxL w [.slice none 0 0, .slice none 0 0] [.slice none 0 0, .slice none 0 0] 121 121
  simp only [List.toArray] at hW0
  rw [hW0]
  clear hW0
  have D0 := (Dg.start hcur).below hb0
  refine (drawBelow g 6 _ (by omega) (by omega) D0.cur).mono ?_
  rintro e w1 ⟨x, hx, rfl, hc1, hw1⟩
  have D1 := D0.draw hc1 hw1
  have bn1 := bn0.turn (turn_drawn hw1) (.inr (by omega))
  have bp1 := bp0.turn (turn_drawn hw1) (.inr (by omega))
  clear D0 bn0 bp0 hc1 hw1 hb0
  go_wp2
  go_loopw [7] (fun i wr => ∃ (k : Nat) (v : Value) (zs : List Int), k ≤ x ∧ i = .int .i64 k ∧ zs.length = k ∧ (∀ z ∈ zs, -1 ≤ z ∧ z < (x : Int)) ∧ Dg w g wr ∧ BoxL wr w.heap.size [.slice none 0 0, .slice none 0 0] ∧ BoxL wr (w.heap.size + 1) [.slice none 0 0, v] ∧ wr.ownsRow (w.heap.size + 2) 3 1 v k (intVals zs))
    (fun i _ => x - (intOf i).toNat)
  case atStart => exact ⟨0, _, [], Nat.zero_le _, rfl, rfl, by simp, D1, bn1, bp1, World.ownsRow_nil _ _ _ _⟩
  case round =>
    clear D1 bn1 bp1
    obtain ⟨k, v, zs, hk, rfl, hzl, hzb, D, bn, bp, hown⟩ := hrel
    have HZ := Lib.hid hzb
    have HL := Lib.hid hzl
    clear hzb hzl
    by_cases hlt : k < x
    · go_wp2_with fail
      refine (drawOnce g 4 _ (by omega) (by omega) D.cur).mono ?_
      rintro e w2 ⟨fl, rfl, hc2, hw2⟩
      have D2 := D.draw hc2 hw2
      have bn2 := bn.turn (turn_drawn hw2) (.inr (by omega))
      have bp2 := bp.turn (turn_drawn hw2) (.inr (by omega))
      have ho2 := own_other hown hw2 (fun j hj e => by have := (hown.lt j hj).1; have := Option.some.inj e; omega)
      clear D bn bp hown hc2 hw2
      cases fl with
      | true =>
        go_wp2_with fail
        rw [show (k : Int) + 1 = ((k + 1 : Nat) : Int) by omega]
        refine (drawBelow g (k + 1) _ (by omega) (by omega) D2.cur).mono ?_
        rintro e w3 ⟨y, hy, rfl, hc3, hw3⟩
        have D3 := D2.draw hc3 hw3
        have bn3 := bn2.turn (turn_drawn hw3) (.inr (by omega))
        have bp3 := bp2.turn (turn_drawn hw3) (.inr (by omega))
        have ho3 := own_other ho2 hw3 (fun j hj e => by have := (ho2.lt j hj).1; have := Option.some.inj e; omega)
        clear D2 bn2 bp2 ho2 hc3 hw3
        have d3 := bp3.c 1 _ rfl
        have f3 := bp3.f
        have hps := bp3.lt
        have hsz3 := D3.grown.size
        have HO := Lib.hid ho3
        clear ho3
        go_wp2_with (first
          | (at_builtin; refine wpList_append_own_at _ rfl (.tmp 29) (.tmp 31) 25 rfl (w.heap.size + 2) 3 i0 (.int .i64 0) 1 8 Tryz.underlying25 hi hz0 hz1 hz2 rfl (by decide) _ k _ rfl (HO.out.alloc _) ⟨w3.heap.size, 0, none⟩ 1 1 [.int .i64 ((y : Int) - 1)] rfl rfl (oneCell_at _) (oneCell_int _) (by unfold maxLen; omega) (by omega) (by simp; omega) ?_; intro v5 w5 hown5 hg5 _ hloc; obtain ⟨va5, vc5, rfl, _⟩ := own_shape hown5; have t5 : Turn (w.heap.size + 2) w5.heap.size _ w5 := Turn.of_grown hg5 (fun j hj => ⟨(HO.out.lt j hj).1, by have h2 : j < w3.heap.size := (HO.out.lt j hj).2; have h1 : w3.heap.size + 1 ≤ w5.heap.size := (by have := hg5.size; simpa using this); omega⟩); have ha := (Below.refl w3.heap.size w3).alloc (Nat.le_refl _) (.cells #[.int .i64 ((y : Int) - 1)] 3); have D5 := (D3.below ha).turn t5 (by omega); have bn5 := (bn3.below ha).turn t5 (.inl (by omega)); have bp5 := (bp3.below ha).turn t5 (.inl (by omega)); have d5 := bp5.c 1 _ rfl; have f5 := bp5.f; clear d3 f3)
          | fail)
        have ts := turn_set w5 (w.heap.size + 1) 1 (.slice va5 (k + 1) vc5)
        have D6 := D5.turn ts (by omega)
        have bn6 := bn5.turn ts (.inl (by omega))
        have bp6 := bp5.set 1 (.slice va5 (k + 1) vc5)
        have ho6 := ownsRow_setCell_below hown5 (a := ⟨w.heap.size + 1, 1, none⟩) (by show w.heap.size + 1 < w.heap.size + 2; omega) (.slice va5 (k + 1) vc5)
        go_roundw
        case rel => first | exact ⟨k + 1, .slice va5 (k + 1) vc5, zs ++ [(y : Int) - 1], by omega, by go_num, by simp [HL.out], all_snoc' HZ.out (by omega), D6, bn6, bp6, by rw [intVals_snoc]; exact ho6⟩ | ((repeat apply Exists.intro); exact ⟨⟨k + 1, .slice va5 (k + 1) vc5, zs ++ [(y : Int) - 1], by omega, by go_num, by simp [HL.out], all_snoc' HZ.out (by omega), D6, bn6, bp6, by rw [intVals_snoc]; exact ho6⟩, rfl⟩)
        case measure => simp [intOf]; omega
      | false =>
        have d3 := bp2.c 1 _ rfl
        have f3 := bp2.f
        have hps := bp2.lt
        have hsz3 := D2.grown.size
        have HO := Lib.hid ho2
        clear ho2
        go_wp2_with (first
          | (at_builtin; refine wpList_append_own_at _ rfl (.tmp 29) (.tmp 31) 25 rfl (w.heap.size + 2) 3 i0 (.int .i64 0) 1 8 Tryz.underlying25 hi hz0 hz1 hz2 rfl (by decide) _ k _ rfl (HO.out.alloc _) ⟨w2.heap.size, 0, none⟩ 1 1 [.int .i64 ((k : Int) - 1)] rfl rfl (oneCell_at _) (oneCell_int _) (by unfold maxLen; omega) (by omega) (by simp; omega) ?_; intro v5 w5 hown5 hg5 _ hloc; obtain ⟨va5, vc5, rfl, _⟩ := own_shape hown5; have t5 : Turn (w.heap.size + 2) w5.heap.size _ w5 := Turn.of_grown hg5 (fun j hj => ⟨(HO.out.lt j hj).1, by have h2 : j < w2.heap.size := (HO.out.lt j hj).2; have h1 : w2.heap.size + 1 ≤ w5.heap.size := (by have := hg5.size; simpa using this); omega⟩); have ha := (Below.refl w2.heap.size w2).alloc (Nat.le_refl _) (.cells #[.int .i64 ((k : Int) - 1)] 3); have D5 := (D2.below ha).turn t5 (by omega); have bn5 := (bn2.below ha).turn t5 (.inl (by omega)); have bp5 := (bp2.below ha).turn t5 (.inl (by omega)); have d5 := bp5.c 1 _ rfl; have f5 := bp5.f; clear d3 f3)
          | fail)
        have ts := turn_set w5 (w.heap.size + 1) 1 (.slice va5 (k + 1) vc5)
        have D6 := D5.turn ts (by omega)
        have bn6 := bn5.turn ts (.inl (by omega))
        have bp6 := bp5.set 1 (.slice va5 (k + 1) vc5)
        have ho6 := ownsRow_setCell_below hown5 (a := ⟨w.heap.size + 1, 1, none⟩) (by show w.heap.size + 1 < w.heap.size + 2; omega) (.slice va5 (k + 1) vc5)
        go_roundw
        case rel => first | exact ⟨k + 1, .slice va5 (k + 1) vc5, zs ++ [(k : Int) - 1], by omega, by go_num, by simp [HL.out], all_snoc' HZ.out (by omega), D6, bn6, bp6, by rw [intVals_snoc]; exact ho6⟩ | ((repeat apply Exists.intro); exact ⟨⟨k + 1, .slice va5 (k + 1) vc5, zs ++ [(k : Int) - 1], by omega, by go_num, by simp [HL.out], all_snoc' HZ.out (by omega), D6, bn6, bp6, by rw [intVals_snoc]; exact ho6⟩, rfl⟩)
        case measure => simp [intOf]; omega
    · have hk' : k = x := by omega
      have hzl := HL.out
      have hzb := HZ.out
      subst hk'
      subst hzl
      obtain ⟨na, nc, rfl, hnc⟩ := own_shape hown
      have hn := OwnIn.of hown
      have hM : w.heap.size + 2 ≤ wr.heap.size := by have := bp.lt; omega
      clear hown HL HZ hlt
      go_wp2
      generalize hMM : wr.heap.size = M at *
      go_loopw [9] (fun i wr => ∃ (k : Nat) (v : Value) (us : List Int), k ≤ 3 ∧ i = .int .i64 k ∧ us.length = k ∧ (∀ z ∈ us, -1 ≤ z ∧ z < (zs.length : Int)) ∧ Dg w g wr ∧ BoxL wr w.heap.size [.slice none 0 0, .slice none 0 0] ∧ BoxL wr (w.heap.size + 1) [v, .slice na zs.length nc] ∧
          OwnIn (w.heap.size + 2) M wr 3 1 (.slice na zs.length nc) zs.length (intVals zs) ∧ wr.ownsRow M 3 1 v k (intVals us))
        (fun i _ => 3 - (intOf i).toNat)
      case atStart => exact ⟨0, _, [], Nat.zero_le _, rfl, rfl, by simp, D, bn, bp, hn, World.ownsRow_nil _ _ _ _⟩
      case round =>
        clear D bn bp hn hMM
        obtain ⟨k, v, us, hk, rfl, hzl, hub, D, bn, bp, hn, hown⟩ := hrel
        have HZ := Lib.hid hub
        have HL := Lib.hid hzl
        clear hub hzl
        by_cases hlt : k < 3
        · go_wp2_with fail
          rw [show (zs.length : Int) + 1 = ((zs.length + 1 : Nat) : Int) by omega]
          refine (drawBelow g (zs.length + 1) _ (by omega) (by omega) D.cur).mono ?_
          rintro e w2 ⟨y, hy, rfl, hc2, hw2⟩
          have D2 := D.draw hc2 hw2
          have bn2 := bn.turn (turn_drawn hw2) (.inr (by omega))
          have bp2 := bp.turn (turn_drawn hw2) (.inr (by omega))
          have hn2 := hn.turn (turn_drawn hw2) (.inr (by omega))
          have ho2 := own_other hown hw2 (fun j hj e => by have := (hown.lt j hj).1; have := Option.some.inj e; omega)
          clear D bn bp hn hown hc2 hw2
          by_cases hk0 : k = 0
          · subst hk0
            go_wp2_with fail
            refine (drawOnce g 2 _ (by omega) (by omega) D2.cur).mono ?_
            rintro e w3 ⟨fl, rfl, hc3, hw3⟩
            have D3 := D2.draw hc3 hw3
            have bn3 := bn2.turn (turn_drawn hw3) (.inr (by omega))
            have bp3 := bp2.turn (turn_drawn hw3) (.inr (by omega))
            have hn3 := hn2.turn (turn_drawn hw3) (.inr (by omega))
            have ho3 := own_other ho2 hw3 (fun j hj e => by have := (ho2.lt j hj).1; have := Option.some.inj e; omega)
            clear D2 bn2 bp2 hn2 ho2 hc3 hw3
            cases fl with
            | true =>
              have d3 := bp3.c 0 _ rfl
              have f3 := bp3.f
              have hps := bp3.lt
              have hsz3 := D3.grown.size
              have HO := Lib.hid ho3
              have HN := Lib.hid hn3
              have hnM := hn3.1
              clear ho3 hn3
              go_wp2_with (first
                | (at_builtin; refine wpList_append_own_at _ rfl (.tmp 53) (.tmp 55) 25 rfl M 3 i0 (.int .i64 0) 1 8 Tryz.underlying25 hi hz0 hz1 hz2 rfl (by decide) _ 0 _ rfl (HO.out.alloc _) ⟨w3.heap.size, 0, none⟩ 1 1 [.int .i64 ((zs.length : Int) - 1)] rfl rfl (oneCell_at _) (oneCell_int _) (by unfold maxLen; omega) (by omega) (by simp; omega) ?_; intro v5 w5 hown5 hg5 _ hloc; obtain ⟨va5, vc5, rfl, _⟩ := own_shape hown5; have t5 : Turn M w5.heap.size _ w5 := Turn.of_grown hg5 (fun j hj => ⟨(HO.out.lt j hj).1, by have h2 : j < w3.heap.size := (HO.out.lt j hj).2; have h1 : w3.heap.size + 1 ≤ w5.heap.size := (by have := hg5.size; simpa using this); omega⟩); have ha := (Below.refl w3.heap.size w3).alloc (Nat.le_refl _) (.cells #[.int .i64 ((zs.length : Int) - 1)] 3); have D5 := (D3.below ha).turn t5 (by omega); have bn5 := (bn3.below ha).turn t5 (.inl (by omega)); have bp5 := (bp3.below ha).turn t5 (.inl (by omega)); have n5 := (HN.out.below ha).turn t5 (.inl (Nat.le_refl _)); have d5 := bp5.c 0 _ rfl; have f5 := bp5.f; clear d3 f3)
                | fail)
              have ts := turn_set w5 (w.heap.size + 1) 0 (.slice va5 (0 + 1) vc5)
              have D6 := D5.turn ts (by omega)
              have bn6 := bn5.turn ts (.inl (by omega))
              have bp6 := bp5.set 0 (.slice va5 (0 + 1) vc5)
              have n6 := n5.turn ts (.inr (by omega))
              have ho6 := ownsRow_setCell_below hown5 (a := ⟨w.heap.size + 1, 0, none⟩) (by show w.heap.size + 1 < M; omega) (.slice va5 (0 + 1) vc5)
              go_roundw
              case rel => first | exact ⟨0 + 1, .slice va5 (0 + 1) vc5, us ++ [(zs.length : Int) - 1], by omega, by go_num, by simp [HL.out], all_snoc' HZ.out (by omega), D6, bn6, bp6, n6, by rw [intVals_snoc]; exact ho6⟩ | ((repeat apply Exists.intro); exact ⟨⟨0 + 1, .slice va5 (0 + 1) vc5, us ++ [(zs.length : Int) - 1], by omega, by go_num, by simp [HL.out], all_snoc' HZ.out (by omega), D6, bn6, bp6, n6, by rw [intVals_snoc]; exact ho6⟩, rfl⟩)
              case measure => simp [intOf]
            | false =>
              have d3 := bp3.c 0 _ rfl
              have f3 := bp3.f
              have hps := bp3.lt
              have hsz3 := D3.grown.size
              have HO := Lib.hid ho3
              have HN := Lib.hid hn3
              have hnM := hn3.1
              clear ho3 hn3
              go_wp2_with (first
                | (at_builtin; refine wpList_append_own_at _ rfl (.tmp 53) (.tmp 55) 25 rfl M 3 i0 (.int .i64 0) 1 8 Tryz.underlying25 hi hz0 hz1 hz2 rfl (by decide) _ 0 _ rfl (HO.out.alloc _) ⟨w3.heap.size, 0, none⟩ 1 1 [.int .i64 ((y : Int) - 1)] rfl rfl (oneCell_at _) (oneCell_int _) (by unfold maxLen; omega) (by omega) (by simp; omega) ?_; intro v5 w5 hown5 hg5 _ hloc; obtain ⟨va5, vc5, rfl, _⟩ := own_shape hown5; have t5 : Turn M w5.heap.size _ w5 := Turn.of_grown hg5 (fun j hj => ⟨(HO.out.lt j hj).1, by have h2 : j < w3.heap.size := (HO.out.lt j hj).2; have h1 : w3.heap.size + 1 ≤ w5.heap.size := (by have := hg5.size; simpa using this); omega⟩); have ha := (Below.refl w3.heap.size w3).alloc (Nat.le_refl _) (.cells #[.int .i64 ((y : Int) - 1)] 3); have D5 := (D3.below ha).turn t5 (by omega); have bn5 := (bn3.below ha).turn t5 (.inl (by omega)); have bp5 := (bp3.below ha).turn t5 (.inl (by omega)); have n5 := (HN.out.below ha).turn t5 (.inl (Nat.le_refl _)); have d5 := bp5.c 0 _ rfl; have f5 := bp5.f; clear d3 f3)
                | fail)
              have ts := turn_set w5 (w.heap.size + 1) 0 (.slice va5 (0 + 1) vc5)
              have D6 := D5.turn ts (by omega)
              have bn6 := bn5.turn ts (.inl (by omega))
              have bp6 := bp5.set 0 (.slice va5 (0 + 1) vc5)
              have n6 := n5.turn ts (.inr (by omega))
              have ho6 := ownsRow_setCell_below hown5 (a := ⟨w.heap.size + 1, 0, none⟩) (by show w.heap.size + 1 < M; omega) (.slice va5 (0 + 1) vc5)
              go_roundw
              case rel => first | exact ⟨0 + 1, .slice va5 (0 + 1) vc5, us ++ [(y : Int) - 1], by omega, by go_num, by simp [HL.out], all_snoc' HZ.out (by omega), D6, bn6, bp6, n6, by rw [intVals_snoc]; exact ho6⟩ | ((repeat apply Exists.intro); exact ⟨⟨0 + 1, .slice va5 (0 + 1) vc5, us ++ [(y : Int) - 1], by omega, by go_num, by simp [HL.out], all_snoc' HZ.out (by omega), D6, bn6, bp6, n6, by rw [intVals_snoc]; exact ho6⟩, rfl⟩)
              case measure => simp [intOf]
          · have hkb : ((k : Int) == 0) = false := by simp; omega
            have d3 := bp2.c 0 _ rfl
            have f3 := bp2.f
            have hps := bp2.lt
            have hsz3 := D2.grown.size
            have HO := Lib.hid ho2
            have HN := Lib.hid hn2
            have hnM := hn2.1
            clear ho2 hn2
            go_wp2_with (first
              | (at_builtin; refine wpList_append_own_at _ rfl (.tmp 53) (.tmp 55) 25 rfl M 3 i0 (.int .i64 0) 1 8 Tryz.underlying25 hi hz0 hz1 hz2 rfl (by decide) _ k _ rfl (HO.out.alloc _) ⟨w2.heap.size, 0, none⟩ 1 1 [.int .i64 ((y : Int) - 1)] rfl rfl (oneCell_at _) (oneCell_int _) (by unfold maxLen; omega) (by omega) (by simp; omega) ?_; intro v5 w5 hown5 hg5 _ hloc; obtain ⟨va5, vc5, rfl, _⟩ := own_shape hown5; have t5 : Turn M w5.heap.size _ w5 := Turn.of_grown hg5 (fun j hj => ⟨(HO.out.lt j hj).1, by have h2 : j < w2.heap.size := (HO.out.lt j hj).2; have h1 : w2.heap.size + 1 ≤ w5.heap.size := (by have := hg5.size; simpa using this); omega⟩); have ha := (Below.refl w2.heap.size w2).alloc (Nat.le_refl _) (.cells #[.int .i64 ((y : Int) - 1)] 3); have D5 := (D2.below ha).turn t5 (by omega); have bn5 := (bn2.below ha).turn t5 (.inl (by omega)); have bp5 := (bp2.below ha).turn t5 (.inl (by omega)); have n5 := (HN.out.below ha).turn t5 (.inl (Nat.le_refl _)); have d5 := bp5.c 0 _ rfl; have f5 := bp5.f; clear d3 f3)
              | fail)
            have ts := turn_set w5 (w.heap.size + 1) 0 (.slice va5 (k + 1) vc5)
            have D6 := D5.turn ts (by omega)
            have bn6 := bn5.turn ts (.inl (by omega))
            have bp6 := bp5.set 0 (.slice va5 (k + 1) vc5)
            have n6 := n5.turn ts (.inr (by omega))
            have ho6 := ownsRow_setCell_below hown5 (a := ⟨w.heap.size + 1, 0, none⟩) (by show w.heap.size + 1 < M; omega) (.slice va5 (k + 1) vc5)
            go_roundw
            case rel => first | exact ⟨k + 1, .slice va5 (k + 1) vc5, us ++ [(y : Int) - 1], by omega, by go_num, by simp [HL.out], all_snoc' HZ.out (by omega), D6, bn6, bp6, n6, by rw [intVals_snoc]; exact ho6⟩ | ((repeat apply Exists.intro); exact ⟨⟨k + 1, .slice va5 (k + 1) vc5, us ++ [(y : Int) - 1], by omega, by go_num, by simp [HL.out], all_snoc' HZ.out (by omega), D6, bn6, bp6, n6, by rw [intVals_snoc]; exact ho6⟩, rfl⟩)
            case measure => simp [intOf]; omega
        · have hk' : k = 3 := by omega
          have hul := HL.out
          have hub := HZ.out
          subst hul
          obtain ⟨va, vc, rfl, hvc⟩ := own_shape hown
          have hO := OwnIn.of hown
          have d0 := bp.c 0 _ rfl
          have d1 := bp.c 1 _ rfl
          have hg := show goodH us zs = true by rw [goodH, goodB_of hub, goodB_of hzb]; rfl
          have e1 : (canonVs us zs).length = 3 := by simp only [canonVs, hg, if_true, canonV, List.length_map]; exact hk'
          have e2 : (canonNs us zs).length ≤ 5 := by have := (order_end us zs).len; simp only [canonNs, hg, if_true, canonN, List.length_map]; omega
          have E1 := Lib.hid e1
          have E2 := Lib.hid e2
          have HK := Lib.hid hk'
          clear e1 e2 hg HL HZ hown hk'
          go_wp2_with fail
          refine (specCanonHeap va na vc nc us zs _ (by omega) (by omega) ⟨hO.row, hn.row⟩).mono ?_
          rintro e w3 ⟨pa, pca, pb, pcb, rfl, hin, hb3⟩
          have bn3 := bn.below hb3
          have r0 := bn3.c 0 _ rfl
          have r1 := bn3.c 1 _ rfl
          have rf := bn3.f
          have D3 := D.below hb3
          have hsz : w.heap.size + 1 < wr.heap.size := bp.lt
          clear d0 d1 bn bp hn hO bn3 D
          go_wp2
          refine bodyPost_ret (v := heV pa (canonVs us zs).length pca pb (canonNs us zs).length pcb) (by simp [results, Tryz.results105, go_sem, r0, r1]) rfl ?_
          have tq : Turn w.heap.size (w.heap.size + 1) w3 ((w3.setCell ⟨w.heap.size, 0, none⟩ (.slice pa (canonVs us zs).length pca)).setCell ⟨w.heap.size, 1, none⟩ (.slice pb (canonNs us zs).length pcb)) := (turn_set _ _ _ _).trans (turn_set _ _ _ _)
          refine ⟨pa, pca, pb, pcb, canonVs us zs, canonNs us zs, rfl, E1.out, E2.out, ?_, D3.turn tq (Nat.le_refl _)⟩
          exact (hin.turn tq (.inr (by omega))).mono (by omega) (by simp) (Nat.le_refl _)

/-- A heap, drawn and bent, with a number. -/
def HeapBent (g : Nat) (w : World) (e : Ending) (w' : World) : Prop :=
  ∃ n a ca b cb vs zs, e = .returned (.tuple #[.int .i64 n, heV a vs.length ca b zs.length cb]) ∧ (2 ≤ n ∧ n ≤ 4) ∧ vs.length = 3 ∧ zs.length ≤ 6 ∧ HeapIn w.heap.size w'.heap.size w' a ca b cb (intVals vs) (intVals zs) ∧ Dg w g w'
theorem heap_bent_end {w W : World} {g lo : Nat} {n : Int} {a b : Option Addr} {ca cb : Nat} {vs zs : List Int} (hn : 2 ≤ n ∧ n ≤ 4) (hv : vs.length = 3) (hz : zs.length ≤ 6) (D : Dg w g W) (hl : w.heap.size < lo) (hin : HeapIn lo W.heap.size W a ca b cb (intVals vs) (intVals zs)) (u0 u1 : Value) :
    HeapBent g w (.returned (.tuple #[.int .i64 n, heV a vs.length ca b zs.length cb])) ((W.setCell ⟨w.heap.size, 0, none⟩ u0).setCell ⟨w.heap.size, 1, none⟩ u1) := by
  have tq : Turn w.heap.size (w.heap.size + 1) W ((W.setCell ⟨w.heap.size, 0, none⟩ u0).setCell ⟨w.heap.size, 1, none⟩ u1) := (turn_set _ _ _ _).trans (turn_set _ _ _ _)
  exact ⟨n, a, ca, b, cb, vs, zs, rfl, hn, hv, hz, (hin.turn tq (.inr (by omega))).mono (by omega) (by simp) (Nat.le_refl _), D.turn tq (Nat.le_refl _)⟩
theorem HeapIn.drew {lo hi : Nat} {W : World} {a b : Option Addr} {ca cb : Nat} {vs zs : List Value} (h : HeapIn lo hi W a ca b cb vs zs) : HeapIn lo hi W.drew a ca b cb vs zs := h.below (Below.drew (Below.refl _ _))

end Go.Proofs.YtglcailcdcpadaaGreatDoor
