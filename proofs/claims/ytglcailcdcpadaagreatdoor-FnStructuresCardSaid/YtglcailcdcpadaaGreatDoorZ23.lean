/-
  The model's copy of a node.
-/
import Derived.Test.YtglcailcdcpadaaGreatDoorZ17
import Derived.Test.YtglcailcdcpadaaGreatDoorZ05
namespace Go.Proofs.YtglcailcdcpadaaGreatDoor
open Go Go.RowKit

/-- A node that a call made. -/
def MadeNode (vs zs : List Int) (s q : Int) (w : World) (e : Ending) (w' : World) : Prop :=
  ∃ a ca b cb, e = .returned (ndC a vs.length ca b zs.length cb s q) ∧ HeapIn w.heap.size w'.heap.size w' a ca b cb (intVals vs) (intVals zs) ∧ Below w.heap.size w w'
set_option maxHeartbeats 1600000 in
set_option maxRecDepth 100000 in
theorem specCopyNode (a b : Option Addr) (ca cb : Nat) (vs zs : List Int) (s q : Int) (w : World) (hna : a = none → ca = 0) (hnb : b = none → cb = 0) (hr : HeapAt w a b vs zs) (hl : vs.length ≤ 100) (he : zs.length ≤ 100) :
    Calls Tryz.prog 88 #[ndC a vs.length ca b zs.length cb s q] w (MadeNode vs zs s q w) := by
  obtain ⟨ha, hb⟩ := hr
  have hna' : a = none → vs.length = 0 ∧ ca = 0 := fun h => ⟨by subst h; have := row_nil ha; simpa [intVals] using this, hna h⟩
  have hnb' : b = none → zs.length = 0 ∧ cb = 0 := fun h => ⟨by subst h; have := row_nil hb; simpa [intVals] using this, hnb h⟩
  obtain ⟨i0, hi, hz0, hz1, hz2⟩ := info_parts intInfo
  go_enter Tryz.func88, Tryz.ntmps88
  go_wp2_with fail
  obtain ⟨W0, hW0, hb0, hA0, hA1⟩ := two_boxL w [.slice a vs.length ca, .slice b zs.length cb, .int .i64 s, .int .i64 q] [.slice none 0 0, .slice none 0 0, .int .i64 0, .int .i64 0] 56 56
  simp only [List.toArray] at hW0
  rw [hW0]
  clear hW0
  have hs0 := hA1.lt
  have c0 := hA0.c 0 _ rfl
  have c1 := hA0.c 1 _ rfl
  have c2 := hA0.c 2 _ rfl
  have c3 := hA0.c 3 _ rfl
  have hN1 : w.heap.size + 1 ≤ W0.heap.size := by omega
  have hAll : ∀ W, Below (w.heap.size + 1) W0 W → W.cell? ⟨w.heap.size, 0, none⟩ = some (.slice a vs.length ca) ∧ W.cell? ⟨w.heap.size, 1, none⟩ = some (.slice b zs.length cb) ∧ W.cell? ⟨w.heap.size, 2, none⟩ = some (.int .i64 s) ∧ W.cell? ⟨w.heap.size, 3, none⟩ = some (.int .i64 q) := fun W h => ⟨(h.cell (p := ⟨w.heap.size, 0, none⟩) (by show w.heap.size < _; omega)).trans c0, (h.cell (p := ⟨w.heap.size, 1, none⟩) (by show w.heap.size < _; omega)).trans c1, (h.cell (p := ⟨w.heap.size, 2, none⟩) (by show w.heap.size < _; omega)).trans c2, (h.cell (p := ⟨w.heap.size, 3, none⟩) (by show w.heap.size < _; omega)).trans c3⟩
  go_region_held3 (fun w' => w'.cell? ⟨w.heap.size, 0, none⟩ = some (.slice a vs.length ca) ∧ w'.cell? ⟨w.heap.size, 1, none⟩ = some (.slice b zs.length cb) ∧ w'.cell? ⟨w.heap.size, 2, none⟩ = some (.int .i64 s) ∧ w'.cell? ⟨w.heap.size, 3, none⟩ = some (.int .i64 q))
    (exact hAll _ (by repeat (first | with_reducible exact Below.refl _ _ | with_reducible exact H6.mono hN1 | with_reducible exact H12.mono hN1 | with_reducible refine Below.drew ?_ | refine Below.setCell ?_ (by show w.heap.size + 1 ≤ w.heap.size + 1; exact Nat.le_refl _) _ | refine Below.alloc ?_ (Nat.le_trans hN1 (by first | omega | exact H6.size | exact H12.size | exact Nat.le_trans H6.size (by simp) | exact Nat.le_trans H12.size (by simp) | (simp; done))) _)))
    (first
          | (refine step_append_row _ rfl (.tmp 3) (.tmp 5) 25 rfl W0.heap.size 3 i0 (.int .i64 0) 1 8 Tryz.underlying25 hi hz0 hz1 hz2 rfl (by decide) (.slice (some ⟨_, 0, none⟩) 0 0) 0 [] rfl (empty_own ?_ ?_) a vs.length ca (intVals vs) rfl hna' (by simp [intVals]) ?_ (intVals_onec vs) (by unfold maxLen; omega) (by omega) ?_ ?_
             · repeat (first | with_reducible exact emp_at rfl | (refine emp_at ?_; simp; done) | with_reducible refine emp_drew ?_ | with_reducible refine emp_keep ?_ _ | with_reducible refine emp_grown ?_ hg6 (by have := H6.size; simp [Value.ownBlock] <;> omega) | with_reducible refine emp_grown ?_ hg12 (by have := H12.size; simp [Value.ownBlock] <;> omega))
             · first | exact Nat.le_refl _ | exact H12.size | omega | (simp; done) | (simp; omega)
             · exact row_news ((ha.below hb0).below ((show Below W0.heap.size W0 _ from (by repeat (first | with_reducible exact Below.refl _ _ | with_reducible exact H6 | with_reducible exact H12 | with_reducible refine Below.drew ?_ | refine Below.alloc ?_ (by first | omega | exact H6.size | exact H12.size | exact Nat.le_trans H6.size (by simp) | exact Nat.le_trans H12.size (by simp) | (simp; done)) _))).mono hb0.size))
             · first | exact H12.size | exact Nat.le_trans H12.size (by simp) | (simp; done) | (simp; omega)
             intro v6 w6 own6 hg6 hat6 hbw6
             simp only [Nat.zero_add, List.nil_append] at own6
             obtain ⟨a6, c6, rfl, hc6⟩ := own_shape own6
             have H6 : Below W0.heap.size W0 w6 := Below.trans (by repeat (first | with_reducible exact Below.refl _ _ | with_reducible exact H6 | with_reducible exact H12 | with_reducible refine Below.drew ?_ | refine Below.alloc ?_ (by first | omega | exact H6.size | exact H12.size | exact Nat.le_trans H6.size (by simp) | exact Nat.le_trans H12.size (by simp) | (simp; done)) _)) hbw6
             have s6 := hg6.size
             try simp only [Value.ownBlock] at hat6
             try simp at s6 hat6
             have own12' := own12
             have ofin := own_after hg6 own12 (by
               intro k hk e
               have hlt := (own12.lt k hk).2
               try simp only [Value.ownBlock] at hk e
               try simp at e
               rcases hat12 with q | q <;> (rw [hk] at q; try simp at q; omega))
             have E := hA1.below H6
             have e0 := E.c 0 _ rfl
             have e1 := E.c 1 _ rfl
             have e2 := E.c 2 _ rfl
             have e3 := E.c 3 _ rfl
             have f12 := E.f)
          | (refine step_append_row _ rfl (.tmp 3) (.tmp 5) 25 rfl W0.heap.size 3 i0 (.int .i64 0) 1 8 Tryz.underlying25 hi hz0 hz1 hz2 rfl (by decide) (.slice (some ⟨_, 0, none⟩) 0 0) 0 [] rfl (empty_own ?_ ?_) a vs.length ca (intVals vs) rfl hna' (by simp [intVals]) ?_ (intVals_onec vs) (by unfold maxLen; omega) (by omega) ?_ ?_
             · repeat (first | with_reducible exact emp_at rfl | (refine emp_at ?_; simp; done) | with_reducible refine emp_drew ?_ | with_reducible refine emp_keep ?_ _ | with_reducible refine emp_grown ?_ hg6 (by have := H6.size; simp [Value.ownBlock] <;> omega) | with_reducible refine emp_grown ?_ hg12 (by have := H12.size; simp [Value.ownBlock] <;> omega))
             · first | exact Nat.le_refl _ | exact H12.size | omega | (simp; done) | (simp; omega)
             · exact row_news ((ha.below hb0).below ((show Below W0.heap.size W0 _ from (by repeat (first | with_reducible exact Below.refl _ _ | with_reducible exact H6 | with_reducible exact H12 | with_reducible refine Below.drew ?_ | refine Below.alloc ?_ (by first | omega | exact H6.size | exact H12.size | exact Nat.le_trans H6.size (by simp) | exact Nat.le_trans H12.size (by simp) | (simp; done)) _))).mono hb0.size))
             · first | exact H12.size | exact Nat.le_trans H12.size (by simp) | (simp; done) | (simp; omega)
             intro v6 w6 own6 hg6 hat6 hbw6
             simp only [Nat.zero_add, List.nil_append] at own6
             obtain ⟨a6, c6, rfl, hc6⟩ := own_shape own6
             have H6 : Below W0.heap.size W0 w6 := Below.trans (by repeat (first | with_reducible exact Below.refl _ _ | with_reducible exact H6 | with_reducible exact H12 | with_reducible refine Below.drew ?_ | refine Below.alloc ?_ (by first | omega | exact H6.size | exact H12.size | exact Nat.le_trans H6.size (by simp) | exact Nat.le_trans H12.size (by simp) | (simp; done)) _)) hbw6
             have s6 := hg6.size
             try simp only [Value.ownBlock] at hat6
             try simp at s6 hat6)
          | (refine step_append_row _ rfl (.tmp 7) (.tmp 9) 25 rfl W0.heap.size 3 i0 (.int .i64 0) 1 8 Tryz.underlying25 hi hz0 hz1 hz2 rfl (by decide) (.slice (some ⟨_, 0, none⟩) 0 0) 0 [] rfl (empty_own ?_ ?_) b zs.length cb (intVals zs) rfl hnb' (by simp [intVals]) ?_ (intVals_onec zs) (by unfold maxLen; omega) (by omega) ?_ ?_
             · repeat (first | with_reducible exact emp_at rfl | (refine emp_at ?_; simp; done) | with_reducible refine emp_drew ?_ | with_reducible refine emp_keep ?_ _ | with_reducible refine emp_grown ?_ hg6 (by have := H6.size; simp [Value.ownBlock] <;> omega) | with_reducible refine emp_grown ?_ hg12 (by have := H12.size; simp [Value.ownBlock] <;> omega))
             · first | exact Nat.le_refl _ | exact H6.size | omega | (simp; done) | (simp; omega)
             · exact row_news ((hb.below hb0).below ((show Below W0.heap.size W0 _ from (by repeat (first | with_reducible exact Below.refl _ _ | with_reducible exact H6 | with_reducible exact H12 | with_reducible refine Below.drew ?_ | refine Below.alloc ?_ (by first | omega | exact H6.size | exact H12.size | exact Nat.le_trans H6.size (by simp) | exact Nat.le_trans H12.size (by simp) | (simp; done)) _))).mono hb0.size))
             · first | exact H6.size | exact Nat.le_trans H6.size (by simp) | (simp; done) | (simp; omega)
             intro v12 w12 own12 hg12 hat12 hbw12
             simp only [Nat.zero_add, List.nil_append] at own12
             obtain ⟨a12, c12, rfl, hc12⟩ := own_shape own12
             have H12 : Below W0.heap.size W0 w12 := Below.trans (by repeat (first | with_reducible exact Below.refl _ _ | with_reducible exact H6 | with_reducible exact H12 | with_reducible refine Below.drew ?_ | refine Below.alloc ?_ (by first | omega | exact H6.size | exact H12.size | exact Nat.le_trans H6.size (by simp) | exact Nat.le_trans H12.size (by simp) | (simp; done)) _)) hbw12
             have s12 := hg12.size
             try simp only [Value.ownBlock] at hat12
             try simp at s12 hat12
             have own6' := own6
             have ofin := own_after hg12 own6 (by
               intro k hk e
               have hlt := (own6.lt k hk).2
               try simp only [Value.ownBlock] at hk e
               try simp at e
               rcases hat6 with q | q <;> (rw [hk] at q; try simp at q; omega))
             have E := hA1.below H12
             have e0 := E.c 0 _ rfl
             have e1 := E.c 1 _ rfl
             have e2 := E.c 2 _ rfl
             have e3 := E.c 3 _ rfl
             have f12 := E.f)
          | (refine step_append_row _ rfl (.tmp 7) (.tmp 9) 25 rfl W0.heap.size 3 i0 (.int .i64 0) 1 8 Tryz.underlying25 hi hz0 hz1 hz2 rfl (by decide) (.slice (some ⟨_, 0, none⟩) 0 0) 0 [] rfl (empty_own ?_ ?_) b zs.length cb (intVals zs) rfl hnb' (by simp [intVals]) ?_ (intVals_onec zs) (by unfold maxLen; omega) (by omega) ?_ ?_
             · repeat (first | with_reducible exact emp_at rfl | (refine emp_at ?_; simp; done) | with_reducible refine emp_drew ?_ | with_reducible refine emp_keep ?_ _ | with_reducible refine emp_grown ?_ hg6 (by have := H6.size; simp [Value.ownBlock] <;> omega) | with_reducible refine emp_grown ?_ hg12 (by have := H12.size; simp [Value.ownBlock] <;> omega))
             · first | exact Nat.le_refl _ | exact H6.size | omega | (simp; done) | (simp; omega)
             · exact row_news ((hb.below hb0).below ((show Below W0.heap.size W0 _ from (by repeat (first | with_reducible exact Below.refl _ _ | with_reducible exact H6 | with_reducible exact H12 | with_reducible refine Below.drew ?_ | refine Below.alloc ?_ (by first | omega | exact H6.size | exact H12.size | exact Nat.le_trans H6.size (by simp) | exact Nat.le_trans H12.size (by simp) | (simp; done)) _))).mono hb0.size))
             · first | exact H6.size | exact Nat.le_trans H6.size (by simp) | (simp; done) | (simp; omega)
             intro v12 w12 own12 hg12 hat12 hbw12
             simp only [Nat.zero_add, List.nil_append] at own12
             obtain ⟨a12, c12, rfl, hc12⟩ := own_shape own12
             have H12 : Below W0.heap.size W0 w12 := Below.trans (by repeat (first | with_reducible exact Below.refl _ _ | with_reducible exact H6 | with_reducible exact H12 | with_reducible refine Below.drew ?_ | refine Below.alloc ?_ (by first | omega | exact H6.size | exact H12.size | exact Nat.le_trans H6.size (by simp) | exact Nat.le_trans H12.size (by simp) | (simp; done)) _)) hbw12
             have s12 := hg12.size
             try simp only [Value.ownBlock] at hat12
             try simp at s12 hat12))
  all_goals
    have hap : ∀ j, (Value.slice a6 vs.length c6).ownBlock = some j → (Value.slice a12 zs.length c12).ownBlock ≠ some j := by
      intro k hk e
      have hlt := (own6.lt k hk).2
      try simp only [Value.ownBlock] at hk e
      rcases hat6 with q | q <;> rcases hat12 with p | p <;> (rw [hk] at q; rw [e] at p; (try simp at q); (try simp at p); omega)
    have tq : Turn w.heap.size (w.heap.size + 2) w12 ((((w12.setCell ⟨w.heap.size + 1, 0, none⟩ (.slice a6 vs.length c6)).setCell ⟨w.heap.size + 1, 1, none⟩ (.slice a12 zs.length c12)).setCell ⟨w.heap.size + 1, 2, none⟩ (.int .i64 s)).setCell ⟨w.heap.size + 1, 3, none⟩ (.int .i64 q)) := ((((turn_set _ _ _ _).trans (turn_set _ _ _ _)).trans (turn_set _ _ _ _)).trans (turn_set _ _ _ _)).mono (by omega) (by omega)
    have hbE := Turn.below (B := w.heap.size) (hb0.trans (H12.mono (by omega))) tq (Nat.le_refl _) (Nat.le_trans (by omega) H12.size)
    have hin : HeapIn W0.heap.size w12.heap.size w12 a6 c6 a12 c12 (intVals vs) (intVals zs) := ⟨by rw [intVals_length]; exact OwnIn.of ofin, by rw [intVals_length]; exact OwnIn.of own12, by rw [intVals_length, intVals_length]; exact hap⟩
    have hend := Lib.hid (show _ ∧ _ from ⟨(hin.turn tq (.inr (by omega))).mono (lo' := w.heap.size) (by omega) tq.size (Nat.le_refl _), hbE⟩)
    clear hin hbE tq own6' ofin own12 own6 hat6 hat12
    go_wp2
    exact bodyPost_ret (v := ndC a6 vs.length c6 a12 zs.length c12 s q) (by simp [results, Tryz.results88, go_sem, e0, e1, e2, e3]) rfl ⟨a6, c6, a12, c12, rfl, hend.out⟩
end Go.Proofs.YtglcailcdcpadaaGreatDoor
