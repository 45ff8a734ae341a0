/-
  The copy of a heap that a draw makes; two heaps, names and a heap, drawn.
-/
import Derived.Test.YtcddpcjanggfkaaDoorDrawHeaps
namespace Go.Proofs.YtcddpcjanggfkaaDoor
open Go Go.RowKit

theorem intVals_one (l : List Int) : ∀ u ∈ intVals l, u.oneCell' = true := by
  intro u hu
  obtain ⟨x, _, rfl⟩ := List.mem_map.1 hu
  rfl
/-- A heap, copied: two new rows. -/
def CopiedHeap (vs zs : List Int) (w : World) (e : Ending) (w' : World) : Prop :=
  ∃ a ca b cb, e = .returned (heV a vs.length ca b zs.length cb) ∧ HRows w.heap.size w'.heap.size w' a b vs zs ∧ Below w.heap.size w w'
set_option maxHeartbeats 1600000 in
set_option maxRecDepth 100000 in
theorem drawCopyHeap (a b : Option Addr) (ca cb : Nat) (vs zs : List Int) (w : World) (hna : a = none → ca = 0) (hnb : b = none → cb = 0) (hr : HeapAt w a b vs zs) (hl : vs.length ≤ 100) (he : zs.length ≤ 100) :
    Calls Tryd.prog 46 #[heV a vs.length ca b zs.length cb] w (CopiedHeap vs zs w) := by
  obtain ⟨ha, hb⟩ := hr
  have hna' : a = none → vs.length = 0 ∧ ca = 0 := fun h => ⟨by subst h; have := row_nil ha; simpa [intVals] using this, hna h⟩
  have hnb' : b = none → zs.length = 0 ∧ cb = 0 := fun h => ⟨by subst h; have := row_nil hb; simpa [intVals] using this, hnb h⟩
  obtain ⟨i0, hi, hz0, hz1, hz2⟩ := info_parts intInfo
  go_enter Tryd.func46, Tryd.ntmps46
  go_wp2_with fail
  obtain ⟨W0, hW0, hb0, hA0, hA1⟩ := two_boxL w [.slice a vs.length ca, .slice b zs.length cb] [.slice none 0 0, .slice none 0 0] 26 26
  simp only [List.toArray] at hW0
  rw [hW0]
  clear hW0
  have hs0 := hA1.lt
  have c0 := hA0.c 0 _ rfl
  have c1 := hA0.c 1 _ rfl
  have hN1 : w.heap.size + 1 ≤ W0.heap.size := by omega
  have hAll : ∀ W, Below (w.heap.size + 1) W0 W → W.cell? ⟨w.heap.size, 0, none⟩ = some (.slice a vs.length ca) ∧ W.cell? ⟨w.heap.size, 1, none⟩ = some (.slice b zs.length cb) := fun W h => ⟨(h.cell (p := ⟨w.heap.size, 0, none⟩) (by show w.heap.size < _; omega)).trans c0, (h.cell (p := ⟨w.heap.size, 1, none⟩) (by show w.heap.size < _; omega)).trans c1⟩
  go_region_held3 (fun w' => w'.cell? ⟨w.heap.size, 0, none⟩ = some (.slice a vs.length ca) ∧ w'.cell? ⟨w.heap.size, 1, none⟩ = some (.slice b zs.length cb))
    (exact hAll _ (by repeat (first | with_reducible exact Below.refl _ _ | with_reducible exact H6.mono hN1 | with_reducible exact H12.mono hN1 | with_reducible refine Below.drew ?_ | refine Below.setCell ?_ (by show w.heap.size + 1 ≤ w.heap.size + 1; exact Nat.le_refl _) _ | refine Below.alloc ?_ (Nat.le_trans hN1 (by first | omega | exact H6.size | exact H12.size | exact Nat.le_trans H6.size (by simp) | exact Nat.le_trans H12.size (by simp) | (simp; done))) _)))
    (first
          | (refine step_append_row _ rfl (.tmp 3) (.tmp 5) 24 rfl W0.heap.size 3 i0 (.int .i64 0) 1 8 Tryd.underlying24 hi hz0 hz1 hz2 rfl (by decide) (.slice (some ⟨_, 0, none⟩) 0 0) 0 [] rfl (empty_own ?_ ?_) a vs.length ca (intVals vs) rfl hna' (by simp [intVals]) ?_ (intVals_one vs) (by unfold maxLen; omega) (by omega) ?_ ?_
             · repeat (first | with_reducible exact emp_at rfl | (refine emp_at ?_; simp; done) | with_reducible refine emp_drew ?_ | with_reducible refine emp_keep ?_ _ | with_reducible refine emp_grown ?_ hg6 (by have := H6.size; simp [Value.ownBlock] <;> omega) | with_reducible refine emp_grown ?_ hg12 (by have := H12.size; simp [Value.ownBlock] <;> omega))
             · first | exact Nat.le_refl _ | exact H12.size | omega | (simp; done) | (simp; omega)
             · exact row_news ((ha.below hb0).below ((show Below W0.heap.size W0 _ from (by repeat (first | with_reducible exact Below.refl _ _ | with_reducible exact H6 | with_reducible exact H12 | with_reducible refine Below.drew ?_ | refine Below.alloc ?_ (by first | omega | exact H6.size | exact H12.size | exact Nat.le_trans H6.size (by simp) | exact Nat.le_trans H12.size (by simp) | (simp; done)) _))).mono hb0.size))
             · first | exact H12.size | exact Nat.le_trans H12.size (by simp) | (simp; done) | (simp; omega)
             intro v6 w6 own6 hg6 hat6 hbw6
             simp only [Nat.zero_add, List.nil_append] at own6
             obtain ⟨a6, c6, rfl, hc6⟩ := own_shape own6
             have H6 : Below W0.heap.size W0 w6 := Below.trans (by repeat (first | with_reducible exact Below.refl _ _ | with_reducible exact H6 | with_reducible exact H12 | with_reducible refine Below.drew ?_ | refine Below.alloc ?_ (by first | omega | exact H6.size | exact H12.size | exact Nat.le_trans H6.size (by simp) | exact Nat.le_trans H12.size (by simp) | (simp; done)) _)) hbw6
             have s6 := hg6.size
             try simp only [Value.ownBlock] at hat6
             try simp at s6 hat6
             have own12' := own12
             have ofin := own_after hg6 own12 (by
               intro k hk e
               have hlt := (own12.lt k hk).2
               try simp only [Value.ownBlock] at hk e
               try simp at e
               rcases hat12 with q | q <;> (rw [hk] at q; try simp at q; omega))
             have E := hA1.below H6
             have e0 := E.c 0 _ rfl
             have e1 := E.c 1 _ rfl
             have f12 := E.f)
          | (refine step_append_row _ rfl (.tmp 3) (.tmp 5) 24 rfl W0.heap.size 3 i0 (.int .i64 0) 1 8 Tryd.underlying24 hi hz0 hz1 hz2 rfl (by decide) (.slice (some ⟨_, 0, none⟩) 0 0) 0 [] rfl (empty_own ?_ ?_) a vs.length ca (intVals vs) rfl hna' (by simp [intVals]) ?_ (intVals_one vs) (by unfold maxLen; omega) (by omega) ?_ ?_
             · repeat (first | with_reducible exact emp_at rfl | (refine emp_at ?_; simp; done) | with_reducible refine emp_drew ?_ | with_reducible refine emp_keep ?_ _ | with_reducible refine emp_grown ?_ hg6 (by have := H6.size; simp [Value.ownBlock] <;> omega) | with_reducible refine emp_grown ?_ hg12 (by have := H12.size; simp [Value.ownBlock] <;> omega))
             · first | exact Nat.le_refl _ | exact H12.size | omega | (simp; done) | (simp; omega)
             · exact row_news ((ha.below hb0).below ((show Below W0.heap.size W0 _ from (by repeat (first | with_reducible exact Below.refl _ _ | with_reducible exact H6 | with_reducible exact H12 | with_reducible refine Below.drew ?_ | refine Below.alloc ?_ (by first | omega | exact H6.size | exact H12.size | exact Nat.le_trans H6.size (by simp) | exact Nat.le_trans H12.size (by simp) | (simp; done)) _))).mono hb0.size))
             · first | exact H12.size | exact Nat.le_trans H12.size (by simp) | (simp; done) | (simp; omega)
             intro v6 w6 own6 hg6 hat6 hbw6
             simp only [Nat.zero_add, List.nil_append] at own6
             obtain ⟨a6, c6, rfl, hc6⟩ := own_shape own6
             have H6 : Below W0.heap.size W0 w6 := Below.trans (by repeat (first | with_reducible exact Below.refl _ _ | with_reducible exact H6 | with_reducible exact H12 | with_reducible refine Below.drew ?_ | refine Below.alloc ?_ (by first | omega | exact H6.size | exact H12.size | exact Nat.le_trans H6.size (by simp) | exact Nat.le_trans H12.size (by simp) | (simp; done)) _)) hbw6
             have s6 := hg6.size
             try simp only [Value.ownBlock] at hat6
             try simp at s6 hat6)
          | (refine step_append_row _ rfl (.tmp 7) (.tmp 9) 24 rfl W0.heap.size 3 i0 (.int .i64 0) 1 8 Tryd.underlying24 hi hz0 hz1 hz2 rfl (by decide) (.slice (some ⟨_, 0, none⟩) 0 0) 0 [] rfl (empty_own ?_ ?_) b zs.length cb (intVals zs) rfl hnb' (by simp [intVals]) ?_ (intVals_one zs) (by unfold maxLen; omega) (by omega) ?_ ?_
             · repeat (first | with_reducible exact emp_at rfl | (refine emp_at ?_; simp; done) | with_reducible refine emp_drew ?_ | with_reducible refine emp_keep ?_ _ | with_reducible refine emp_grown ?_ hg6 (by have := H6.size; simp [Value.ownBlock] <;> omega) | with_reducible refine emp_grown ?_ hg12 (by have := H12.size; simp [Value.ownBlock] <;> omega))
             · first | exact Nat.le_refl _ | exact H6.size | omega | (simp; done) | (simp; omega)
             · exact row_news ((hb.below hb0).below ((show Below W0.heap.size W0 _ from (by repeat (first | with_reducible exact Below.refl _ _ | with_reducible exact H6 | with_reducible exact H12 | with_reducible refine Below.drew ?_ | refine Below.alloc ?_ (by first | omega | exact H6.size | exact H12.size | exact Nat.le_trans H6.size (by simp) | exact Nat.le_trans H12.size (by simp) | (simp; done)) _))).mono hb0.size))
             · first | exact H6.size | exact Nat.le_trans H6.size (by simp) | (simp; done) | (simp; omega)
             intro v12 w12 own12 hg12 hat12 hbw12
             simp only [Nat.zero_add, List.nil_append] at own12
             obtain ⟨a12, c12, rfl, hc12⟩ := own_shape own12
             have H12 : Below W0.heap.size W0 w12 := Below.trans (by repeat (first | with_reducible exact Below.refl _ _ | with_reducible exact H6 | with_reducible exact H12 | with_reducible refine Below.drew ?_ | refine Below.alloc ?_ (by first | omega | exact H6.size | exact H12.size | exact Nat.le_trans H6.size (by simp) | exact Nat.le_trans H12.size (by simp) | (simp; done)) _)) hbw12
             have s12 := hg12.size
             try simp only [Value.ownBlock] at hat12
             try simp at s12 hat12
             have own6' := own6
             have ofin := own_after hg12 own6 (by
               intro k hk e
               have hlt := (own6.lt k hk).2
               try simp only [Value.ownBlock] at hk e
               try simp at e
               rcases hat6 with q | q <;> (rw [hk] at q; try simp at q; omega))
             have E := hA1.below H12
             have e0 := E.c 0 _ rfl
             have e1 := E.c 1 _ rfl
             have f12 := E.f)
          | (refine step_append_row _ rfl (.tmp 7) (.tmp 9) 24 rfl W0.heap.size 3 i0 (.int .i64 0) 1 8 Tryd.underlying24 hi hz0 hz1 hz2 rfl (by decide) (.slice (some ⟨_, 0, none⟩) 0 0) 0 [] rfl (empty_own ?_ ?_) b zs.length cb (intVals zs) rfl hnb' (by simp [intVals]) ?_ (intVals_one zs) (by unfold maxLen; omega) (by omega) ?_ ?_
             · repeat (first | with_reducible exact emp_at rfl | (refine emp_at ?_; simp; done) | with_reducible refine emp_drew ?_ | with_reducible refine emp_keep ?_ _ | with_reducible refine emp_grown ?_ hg6 (by have := H6.size; simp [Value.ownBlock] <;> omega) | with_reducible refine emp_grown ?_ hg12 (by have := H12.size; simp [Value.ownBlock] <;> omega))
             · first | exact Nat.le_refl _ | exact H6.size | omega | (simp; done) | (simp; omega)
             · exact row_news ((hb.below hb0).below ((show Below W0.heap.size W0 _ from (by repeat (first | with_reducible exact Below.refl _ _ | with_reducible exact H6 | with_reducible exact H12 | with_reducible refine Below.drew ?_ | refine Below.alloc ?_ (by first | omega | exact H6.size | exact H12.size | exact Nat.le_trans H6.size (by simp) | exact Nat.le_trans H12.size (by simp) | (simp; done)) _))).mono hb0.size))
             · first | exact H6.size | exact Nat.le_trans H6.size (by simp) | (simp; done) | (simp; omega)
             intro v12 w12 own12 hg12 hat12 hbw12
             simp only [Nat.zero_add, List.nil_append] at own12
             obtain ⟨a12, c12, rfl, hc12⟩ := own_shape own12
             have H12 : Below W0.heap.size W0 w12 := Below.trans (by repeat (first | with_reducible exact Below.refl _ _ | with_reducible exact H6 | with_reducible exact H12 | with_reducible refine Below.drew ?_ | refine Below.alloc ?_ (by first | omega | exact H6.size | exact H12.size | exact Nat.le_trans H6.size (by simp) | exact Nat.le_trans H12.size (by simp) | (simp; done)) _)) hbw12
             have s12 := hg12.size
             try simp only [Value.ownBlock] at hat12
             try simp at s12 hat12))
  all_goals
    have tq : Turn w.heap.size (w.heap.size + 2) w12 ((w12.setCell ⟨w.heap.size + 1, 0, none⟩ (.slice a6 vs.length c6)).setCell ⟨w.heap.size + 1, 1, none⟩ (.slice a12 zs.length c12)) := ((turn_set _ _ _ _).trans (turn_set _ _ _ _)).mono (by omega) (by omega)
    have k1 : RowIn W0.heap.size w12.heap.size w12 a6 (intVals vs) := (OwnIn.of ofin).rowIn
    have k2 : RowIn W0.heap.size w12.heap.size w12 a12 (intVals zs) := (OwnIn.of own12).rowIn
    have hbE := Turn.below (B := w.heap.size) (hb0.trans (H12.mono (by omega))) tq (Nat.le_refl _) (Nat.le_trans (by omega) H12.size)
    have r1 := k1.turn tq (.inr (by omega))
    have r2 := k2.turn tq (.inr (by omega))
    have hend := Lib.hid (show HRows w.heap.size _ _ a6 a12 vs zs ∧ _ from ⟨⟨r1.mono (by omega) tq.size (Nat.le_refl _), r2.mono (by omega) tq.size (Nat.le_refl _)⟩, hbE⟩)
    clear k1 k2 r1 r2 hbE tq own6' ofin own12 own6 hat6 hat12
    go_wp2
    exact bodyPost_ret (v := heV a6 vs.length c6 a12 zs.length c12) (by simp [results, Tryd.results46, go_sem, e0, e1]) rfl ⟨a6, c6, a12, c12, rfl, hend.out⟩
def names3 : List ByteArray := [⟨#[120]⟩, ⟨#[121]⟩, ⟨#[116]⟩]
theorem names3_size : ∀ s ∈ names3, s.size ≤ 1 := by decide
theorem drawNames3 (w : World) : Calls Tryd.prog 44 #[] w fun e w' => e = .returned (.slice (some ⟨w.heap.size, 0, none⟩) 3 3) ∧ w.alloc (.cells (strVals names3).toArray 9) = w' := by
  go_enter Tryd.func44, Tryd.ntmps44
  go_wp2
  go_ret
  exact ⟨rfl, rfl⟩
theorem rowIn_new (w : World) (xs : List Value) (t : TypeId) : RowIn w.heap.size (w.heap.size + 1) (w.alloc (.cells xs.toArray t)) (some ⟨w.heap.size, 0, none⟩) xs :=
  ⟨by simp, fun k x hx => ⟨w.heap.size, 0, rfl, Nat.le_refl _, Nat.lt_succ_self _, by rw [Nat.zero_add]; exact (BoxL.new w xs t).c k x hx⟩⟩
/-- Names and a heap, drawn. -/
def SomeTextHeap (w : World) (e : Ending) (w' : World) : Prop :=
  ∃ (ss : List ByteArray), ∃ v a ca b cb vs zs, e = .returned (.tuple #[.slice v ss.length 3, heV a vs.length ca b zs.length cb]) ∧ (ss.length ≤ 3 ∧ ∀ s ∈ ss, s.size ≤ 1) ∧ vs.length = 3 ∧ zs.length ≤ 6 ∧ RowIn w.heap.size w'.heap.size w' v (strVals ss) ∧ HRows w.heap.size w'.heap.size w' a b vs zs ∧ Below w.heap.size w w'
set_option maxRecDepth 100000 in
set_option maxHeartbeats 1600000 in
theorem drawHeapText (a : Option Addr) (n cap : Nat) (w : World) (hn : n ≤ 1099511627776) (hcode : Code8 w w.heap.size n a) : Calls Tryd.prog 16 #[.slice a n cap] w (SomeTextHeap w) := by
  go_enter Tryd.func16, Tryd.ntmps16
  go_wp2_with fail
  obtain ⟨W0, hW0, hb0, bn0⟩ := one_boxL w [.slice none 0 0, .slice none 0 0] 26
  simp only [List.toArray] at hW0
  rw [hW0]
  clear hW0
  have hs0 := bn0.lt
  refine (drawNames3 _).mono ?_
  rintro e w1 ⟨rfl, hw1⟩
  have hb1 : Below W0.heap.size W0 w1 := by rw [← hw1]; exact (Below.refl _ _).alloc (Nat.le_refl _) _
  have r1 : RowIn W0.heap.size (W0.heap.size + 1) w1 (some ⟨W0.heap.size, 0, none⟩) (strVals names3) := by rw [← hw1]; exact rowIn_new W0 _ _
  clear hw1
  have hB1 := hb0.trans (hb1.mono hb0.size)
  have hz1 := hb1.size
  go_wp2_with fail
  refine (drawCanonHeap a n cap _ hn ((hcode.keeps fun p hp => hB1.cell hp).grow hB1.size)).mono ?_
  rintro e w2 ⟨ra, rca, rb, rcb, vs, zs, rfl, hvl, hzl, hin2, hb2⟩
  have HVL := Lib.hid hvl
  clear hvl
  have bn2 := (bn0.below hb1).below hb2
  have hB2 := hB1.trans (hb2.mono hB1.size)
  have r2 := r1.below hb2
  have n0 := bn2.c 0 _ rfl
  have n1 := bn2.c 1 _ rfl
  have nf := bn2.f
  have tq : ∀ u0 u1, Turn w.heap.size (w.heap.size + 1) w2 ((w2.setCell ⟨w.heap.size, 0, none⟩ u0).setCell ⟨w.heap.size, 1, none⟩ u1) := fun u0 u1 => (turn_set _ _ _ _).trans (turn_set _ _ _ _)
  have hend := fun u0 u1 => And.intro ((r2.turn (tq u0 u1) (.inr (by omega))).mono (Nat.le_of_lt hs0) (r2.turn (tq u0 u1) (.inr (by omega))).1 (Nat.le_refl _)) (some_end hB2 (by omega) hin2 u0 u1)
  have HE := Lib.hid hend
  clear hend hin2 tq bn0 bn2 r1 r2
  go_wp2
  exact bodyPost_ret (v := .tuple #[.slice (some ⟨W0.heap.size, 0, none⟩) 3 3, heV ra vs.length rca rb zs.length rcb]) (by simp [results, Tryd.results16, go_sem, n0, n1]) rfl ⟨names3, some ⟨W0.heap.size, 0, none⟩, ra, rca, rb, rcb, vs, zs, rfl, ⟨by decide, names3_size⟩, HVL.out, hzl, HE.out _ _⟩

/-- Two heaps, drawn. -/
def SomeHeaps (w : World) (e : Ending) (w' : World) : Prop :=
  ∃ a ca b cb vs zs, ∃ a2 ca2 b2 cb2 vs2 zs2, e = .returned (.tuple #[heV a vs.length ca b zs.length cb, heV a2 vs2.length ca2 b2 zs2.length cb2]) ∧ (vs.length = 3 ∧ zs.length ≤ 6 ∧ vs2.length = 3 ∧ zs2.length ≤ 6) ∧ (HeapAt w' a b vs zs ∧ HeapAt w' a2 b2 vs2 zs2) ∧ Below w.heap.size w w'
theorem two_ends {w W : World} {lo hi lo' hi' : Nat} {a b a2 b2 : Option Addr} {vs zs vs2 zs2 : List Int} (hB : Below w.heap.size w W) (hl : w.heap.size + 1 < lo) (hl' : w.heap.size + 1 < lo') (hin : HRows lo hi W a b vs zs) (hin' : HRows lo' hi' W a2 b2 vs2 zs2) (u0 u1 u2 u3 : Value) :
    (HeapAt ((((W.setCell ⟨w.heap.size, 0, none⟩ u0).setCell ⟨w.heap.size, 1, none⟩ u1).setCell ⟨w.heap.size + 1, 0, none⟩ u2).setCell ⟨w.heap.size + 1, 1, none⟩ u3) a b vs zs ∧ HeapAt ((((W.setCell ⟨w.heap.size, 0, none⟩ u0).setCell ⟨w.heap.size, 1, none⟩ u1).setCell ⟨w.heap.size + 1, 0, none⟩ u2).setCell ⟨w.heap.size + 1, 1, none⟩ u3) a2 b2 vs2 zs2) ∧
      Below w.heap.size w ((((W.setCell ⟨w.heap.size, 0, none⟩ u0).setCell ⟨w.heap.size, 1, none⟩ u1).setCell ⟨w.heap.size + 1, 0, none⟩ u2).setCell ⟨w.heap.size + 1, 1, none⟩ u3) :=
  have t1 : Turn w.heap.size (w.heap.size + 2) W ((W.setCell ⟨w.heap.size, 0, none⟩ u0).setCell ⟨w.heap.size, 1, none⟩ u1) := ((turn_set _ _ _ _).trans (turn_set _ _ _ _)).mono (Nat.le_refl _) (by omega)
  have t2 : Turn w.heap.size (w.heap.size + 2) ((W.setCell ⟨w.heap.size, 0, none⟩ u0).setCell ⟨w.heap.size, 1, none⟩ u1) ((((W.setCell ⟨w.heap.size, 0, none⟩ u0).setCell ⟨w.heap.size, 1, none⟩ u1).setCell ⟨w.heap.size + 1, 0, none⟩ u2).setCell ⟨w.heap.size + 1, 1, none⟩ u3) := ((turn_set _ _ _ _).trans (turn_set _ _ _ _)).mono (by omega) (by omega)
  have tq := t1.trans t2
  ⟨⟨(hin.turn tq (.inr (by omega))).at_, (hin'.turn tq (.inr (by omega))).at_⟩, Turn.below hB tq (Nat.le_refl _) hB.size⟩
set_option maxRecDepth 100000 in
set_option maxHeartbeats 3200000 in
theorem drawEqualHeap (a : Option Addr) (n cap : Nat) (w : World) (hn : n ≤ 1099511627776) (hcode : Code8 w w.heap.size n a) : Calls Tryd.prog 17 #[.slice a n cap] w (SomeHeaps w) := by
  go_enter Tryd.func17, Tryd.ntmps17
  go_wp2_with fail
  obtain ⟨W0, hW0, hb0, bn0, bm0⟩ := two_boxL w [.slice none 0 0, .slice none 0 0] [.slice none 0 0, .slice none 0 0] 26 26
  simp only [List.toArray] at hW0
  rw [hW0]
  clear hW0
  have hs0 := bm0.lt
  refine (drawNew a n cap _ hn ((hcode.keeps fun p hp => hb0.cell hp).grow hb0.size)).mono ?_
  rintro e w1 ⟨g, rfl, hg, hc1, hb1⟩
  have bn1 := bn0.below hb1
  have bm1 := bm0.below hb1
  have hB1 := hb0.trans (hb1.mono hb0.size)
  have hz1 := hb1.size
  have hg1 := hc1.lt
  clear bn0 bm0
  go_wp2_with fail
  refine (drawBentHeap g _ hc1).mono ?_
  rintro e w2 ⟨nv, ra, rca, rb, rcb, vs, zs, rfl, hnv, hvl, hzl, hin2, D2⟩
  have HVL := Lib.hid hvl
  have hvl3 : vs.length ≤ 100 := by omega
  clear hvl
  have hna := own_none hin2.v.2.1
  have hnb := own_none hin2.z.2.1
  have bn2 := bn1.turn (turn_drawn D2.grown) (.inl (by omega))
  have bm2 := bm1.turn (turn_drawn D2.grown) (.inl (by omega))
  have hB2 := below_only hB1 D2.grown hB1.size (by omega)
  have h12 := D2.grown.size
  have hc2 := D2.cur
  have hr2 := hin2.reads
  clear bn1 bm1 D2 hin2
  go_wp2_with fail
  obtain ⟨W3, hW3, hb3, bp3⟩ := one_boxL w2 [.slice ra vs.length rca, .slice rb zs.length rcb] 26
  simp only [List.toArray] at hW3
  rw [hW3]
  clear hW3
  have hc3 := hc2.keeps hb3
  have bn3 := bn2.below hb3
  have bm3 := bm2.below hb3
  have hr3 := hr2.below hb3
  have hB3 := hB2.trans (hb3.mono hB2.size)
  have h23 := hb3.size
  have hP := bp3.lt
  clear bn2 bm2 hr2
  refine (drawOnce g 2 _ (by omega) (by omega) hc3).mono ?_
  rintro e w4 ⟨fl, rfl, hc4, hw4⟩
  have t4 := turn_drawn hw4
  have bn4 := bn3.turn t4 (.inl (by omega))
  have bm4 := bm3.turn t4 (.inl (by omega))
  have bp4 := bp3.turn t4 (.inr (by omega))
  have hr4 := hr3.turn t4 (.inr (by omega))
  have hB4 := below_only hB3 hw4 hB3.size (by omega)
  have h34 := hw4.size
  clear bn3 bm3 bp3 hr3 t4
  cases fl with
  | true =>
    have BND := Lib.hid (bn4.below (Below.drew (Below.refl _ _)))
    have BMD := Lib.hid (bm4.below (Below.drew (Below.refl _ _)))
    have BPD := Lib.hid (bp4.below (Below.drew (Below.refl _ _)))
    have HRD := Lib.hid (hr4.below (Below.drew (Below.refl _ _)))
    have p0 := BPD.out.c 0 _ rfl
    have p1 := BPD.out.c 1 _ rfl
    have m0 := bp4.c 0 _ rfl
    have m1 := bp4.c 1 _ rfl
    clear bn4 bm4 bp4 hr4
    go_wp2
    go_region_law
      (first
        | (go_simp; go_at_call 46; (with_reducible refine (drawCopyHeap ra rb rca rcb vs zs _ (by intro h; simpa using hna h) (by intro h; simpa using hnb h) HRD.out.at_ (by omega) (by omega)).mono ?_); rintro e w5 ⟨sa, sca, sb, scb, rfl, hs5, hb5⟩; have bn5 := BND.out.below hb5; have bm5 := BMD.out.below hb5; have bp5 := BPD.out.below hb5; have hr5 := HRD.out.below hb5; have q0 := bp5.c 0 _ rfl; have q1 := bp5.c 1 _ rfl; have n0 := bn5.c 0 _ rfl; have n1 := bn5.c 1 _ rfl; have nf := bn5.f; have hnl := bn5.lt; have k0 := bm5.c 0 _ rfl; have k1 := bm5.c 1 _ rfl; have kf := bm5.f; have hkl := bm5.lt))
    all_goals
      have hB5 := hB4.drew.trans (hb5.mono (Nat.le_trans hB4.size (Nat.le_refl _)))
      have hend := fun u0 u1 u2 u3 => two_ends hB5 (by omega) (by show _ < w4.heap.size; omega) hr5 hs5 u0 u1 u2 u3
      have HE := Lib.hid hend
      clear hend hr5 hs5 hB5 hb5 bn5 bm5 bp5
      go_wp2
      exact bodyPost_ret (v := .tuple #[heV ra vs.length rca rb zs.length rcb, heV sa vs.length sca sb zs.length scb]) (by simp [results, Tryd.results17, go_sem, n0, n1, k0, k1]) rfl ⟨ra, rca, rb, rcb, vs, zs, sa, sca, sb, scb, vs, zs, rfl, ⟨HVL.out, hzl, HVL.out, hzl⟩, HE.out _ _ _ _⟩
  | false =>
    go_wp2_with fail
    refine (drawBentHeap g _ hc4).mono ?_
    rintro e w5 ⟨nv2, sa, sca, sb, scb, vs2, zs2, rfl, hnv2, hvl2, hzl2, hin5, D5⟩
    have HVL2 := Lib.hid hvl2
    clear hvl2
    have t5 := turn_drawn D5.grown
    have bn5 := bn4.turn t5 (.inl (by omega))
    have bm5 := bm4.turn t5 (.inl (by omega))
    have bp5 := bp4.turn t5 (.inr (by omega))
    have hr5 := hr4.turn t5 (.inr (by omega))
    have hB5 := below_only hB4 D5.grown hB4.size (by omega)
    have h45 := D5.grown.size
    clear bn4 bm4 bp4 hr4 t5
    go_wp2
    obtain ⟨W6, hW6, hb6, bq6⟩ := one_boxL w5 [.slice sa vs2.length sca, .slice sb zs2.length scb] 26
    simp only [List.toArray] at hW6
    rw [hW6]
    clear hW6
    have bn6 := bn5.below hb6
    have bm6 := bm5.below hb6
    have bp6 := bp5.below hb6
    have n0 := bn6.c 0 _ rfl
    have n1 := bn6.c 1 _ rfl
    have nf := bn6.f
    have hnl := bn6.lt
    have k0 := bm6.c 0 _ rfl
    have k1 := bm6.c 1 _ rfl
    have kf := bm6.f
    have hkl := bm6.lt
    have p0 := bp6.c 0 _ rfl
    have p1 := bp6.c 1 _ rfl
    have q0 := bq6.c 0 _ rfl
    have q1 := bq6.c 1 _ rfl
    have hNP : w2.heap.size ≠ w.heap.size := by omega
    have hNQ : w5.heap.size ≠ w.heap.size := by omega
    have hend := fun u0 u1 u2 u3 => two_ends (hB5.trans (hb6.mono hB5.size)).drew (by omega) (by omega) ((hr5.below hb6).below (Below.drew (Below.refl _ _))) ((hin5.reads.below hb6).below (Below.drew (Below.refl _ _))) u0 u1 u2 u3
    have HE := Lib.hid hend
    clear hend hr5 hin5 D5 bn5 bm5 bp5 bn6 bm6 bp6 bq6
    go_region
    all_goals
      go_wp2
      exact bodyPost_ret (v := .tuple #[heV ra vs.length rca rb zs.length rcb, heV sa vs2.length sca sb zs2.length scb]) (by simp [results, Tryd.results17, go_sem, n0, n1, k0, k1]) rfl ⟨ra, rca, rb, rcb, vs, zs, sa, sca, sb, scb, vs2, zs2, rfl, ⟨HVL.out, hzl, HVL2.out, hzl2⟩, HE.out _ _ _ _⟩
end Go.Proofs.YtcddpcjanggfkaaDoor
