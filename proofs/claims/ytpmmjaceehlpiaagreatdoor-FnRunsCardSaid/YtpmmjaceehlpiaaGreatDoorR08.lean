/-
  Several texts of one proof in one file, in the order in which they build.
-/
import Derived.Deep.RegionHeld3
import Derived.Test.YtpmmjaceehlpiaaGreatDoorR06
import Derived.Test.YtpmmjaceehlpiaaGreatDoorR07
/-
  Boxes of any number of cells that may be written, in the words of intervals.
-/
namespace Go.Proofs.YtpmmjaceehlpiaaGreatDoor
open Go Go.RowKit

/-- A box of some cells that may be written. -/
structure BoxL (W : World) (g : Nat) (xs : List Value) : Prop where
  c : ∀ i x, xs[i]? = some x → W.cell? ⟨g, i, none⟩ = some x
  f : ∀ o, W.frozen? ⟨g, o, none⟩ = false
  lt : g < W.heap.size
section
variable {W W' : World} {g lo hi : Nat} {xs : List Value}
theorem BoxL.new (w : World) (xs : List Value) (t : TypeId) : BoxL (w.alloc (.cells xs.toArray t)) w.heap.size xs :=
  ⟨fun i x hx => by rw [World.cell?_alloc_at _ _ _ _ rfl]; simpa using hx, fun o => by simp [go_sem], by simp⟩
theorem two_boxL (w : World) (xs ys : List Value) (t t' : TypeId) : ∃ W0, (w.alloc (.cells xs.toArray t)).alloc (.cells ys.toArray t') = W0 ∧ Below w.heap.size w W0 ∧ BoxL W0 w.heap.size xs ∧ BoxL W0 (w.heap.size + 1) ys := by
  have h1 := BoxL.new w xs t
  have h2 := BoxL.new (w.alloc (.cells xs.toArray t)) ys t'
  have hs : (w.alloc (.cells xs.toArray t)).heap.size = w.heap.size + 1 := by simp
  have hb := (Below.refl (w.alloc (.cells xs.toArray t)).heap.size (w.alloc (.cells xs.toArray t))).alloc (Nat.le_refl _) (.cells ys.toArray t')
  rw [hs] at h2
  refine ⟨_, rfl, ((Below.refl _ _).alloc (Nat.le_refl _) _).alloc (by simp) _, ⟨fun i x hx => (hb.cell (p := ⟨w.heap.size, i, none⟩) (by rw [hs]; exact Nat.lt_succ_self _)).trans (h1.c i x hx), fun o => (hb.frozen (p := ⟨w.heap.size, o, none⟩) (by rw [hs]; exact Nat.lt_succ_self _)).trans (h1.f o), by simp; omega⟩, h2⟩
theorem BoxL.turn (h : BoxL W g xs) (t : Turn lo hi W W') (hd : g < lo ∨ hi ≤ g) : BoxL W' g xs :=
  ⟨fun i x hx => (World.cell?_of_block (t.block g h.lt hd)).trans (h.c i x hx), fun o => (World.frozen?_of_block (t.block g h.lt hd)).trans (h.f o), Nat.lt_of_lt_of_le h.lt t.size⟩
theorem BoxL.below (h : BoxL W g xs) (hb : Below W.heap.size W W') : BoxL W' g xs := h.turn (lo := g + 1) (hi := g + 1) (Turn.of_below hb) (.inl (Nat.lt_succ_self g))
theorem turn_set (W : World) (b i : Nat) (u : Value) : Turn b (b + 1) W (W.setCell ⟨b, i, none⟩ u) :=
  ⟨rfl, rfl, rfl, by simp, fun k _ hd => Below.heap_setCell _ _ _ _ (by show k ≠ b; omega)⟩
theorem BoxL.set (h : BoxL W g xs) (i : Nat) (u : Value) : BoxL (W.setCell ⟨g, i, none⟩ u) g (xs.set i u) := by
  refine ⟨fun j x hx => ?_, fun o => by simp [go_sem, h.f o], by simpa using h.lt⟩
  by_cases hij : i = j
  · subst hij
    have hl : i < xs.length := by
      have := (List.getElem?_eq_some_iff.1 hx).1
      simpa using this
    rw [List.getElem?_set_self hl] at hx
    obtain rfl := Option.some.inj hx
    exact World.cell?_setCell_same _ _ _ (h.c i _ (List.getElem?_eq_getElem hl))
  · rw [List.getElem?_set_ne hij] at hx
    exact (World.cell?_setCell_other _ _ _ _ (fun e => hij (by have := congrArg Addr.off e; simp at this; omega))).trans (h.c j x hx)
end
end Go.Proofs.YtpmmjaceehlpiaaGreatDoor
/-
  What the walks of draws share: boxes of any number of cells, the cursor beside what is made since, in the words of intervals.
-/
namespace Go.Proofs.YtpmmjaceehlpiaaGreatDoor
open Go Go.RowKit

theorem turn_drawn {W W' : World} {g : Nat} (h : W.grownBy W' (some g)) : Turn g (g + 1) W W' := Turn.of_grown h fun k hk => by have := Option.some.inj hk; omega
/-- The cursor, and that nothing else that was there has turned. -/
structure Dg (w : World) (g : Nat) (W : World) : Prop where
  cur : Cur W g
  grown : w.grownBy W (some g)
  hg : g < w.heap.size
section
variable {w W W' : World} {g lo hi : Nat}
theorem Dg.start (h : Cur w g) : Dg w g w := ⟨h, only_same _ _, h.lt⟩
theorem Dg.draw (h : Dg w g W) (hc : Cur W' g) (hw : W.grownBy W' (some g)) : Dg w g W' := ⟨hc, only_then h.grown hw, h.hg⟩
theorem Dg.turn (h : Dg w g W) (t : Turn lo hi W W') (hl : w.heap.size ≤ lo) : Dg w g W' :=
  have hg := h.hg
  have hs := h.grown.size
  ⟨h.cur.upto ⟨t.os, t.tape, t.output, t.size, fun k hk => t.block k (by omega) (.inl (by omega))⟩,
    ⟨t.os.trans h.grown.os, t.tape.trans h.grown.tape, t.output.trans h.grown.output, Nat.le_trans hs t.size, fun k hk hne => (t.block k (by omega) (.inl (by omega))).trans (h.grown.block k hk hne)⟩, hg⟩
theorem Dg.below (h : Dg w g W) (hb : Below W.heap.size W W') : Dg w g W' := h.turn (lo := w.heap.size) (hi := w.heap.size) (Turn.of_below hb) (Nat.le_refl _)
end
end Go.Proofs.YtpmmjaceehlpiaaGreatDoor
/-
  The model's copy of a heap.
-/
namespace Go.Proofs.YtpmmjaceehlpiaaGreatDoor
open Go Go.RowKit

theorem intVals_onec (l : List Int) : ∀ u ∈ intVals l, u.oneCell' = true := by
  intro u hu
  obtain ⟨x, _, rfl⟩ := List.mem_map.1 hu
  rfl
set_option maxHeartbeats 1600000 in
set_option maxRecDepth 100000 in
theorem specCopy (a b : Option Addr) (ca cb : Nat) (vs zs : List Int) (w : World) (hna : a = none → ca = 0) (hnb : b = none → cb = 0) (hr : HeapAt w a b vs zs) (hl : vs.length ≤ 100) (he : zs.length ≤ 100) :
    Calls Tryz.prog 57 #[heV a vs.length ca b zs.length cb] w (MadeHeap vs zs w) := by
  obtain ⟨ha, hb⟩ := hr
  have hna' : a = none → vs.length = 0 ∧ ca = 0 := fun h => ⟨by subst h; have := row_nil ha; simpa [intVals] using this, hna h⟩
  have hnb' : b = none → zs.length = 0 ∧ cb = 0 := fun h => ⟨by subst h; have := row_nil hb; simpa [intVals] using this, hnb h⟩
  obtain ⟨i0, hi, hz0, hz1, hz2⟩ := info_parts intInfo
  go_enter Tryz.func57, Tryz.ntmps57
  go_wp2_with fail
  obtain ⟨W0, hW0, hb0, hA0, hA1⟩ := two_boxL w [.slice a vs.length ca, .slice b zs.length cb] [.slice none 0 0, .slice none 0 0] 30 30
  simp only [List.toArray] at hW0
  rw [hW0]
  clear hW0
  have hs0 := hA1.lt
  have c0 := hA0.c 0 _ rfl
  have c1 := hA0.c 1 _ rfl
  have hN1 : w.heap.size + 1 ≤ W0.heap.size := by omega
  have hAll : ∀ W, Below (w.heap.size + 1) W0 W → W.cell? ⟨w.heap.size, 0, none⟩ = some (.slice a vs.length ca) ∧ W.cell? ⟨w.heap.size, 1, none⟩ = some (.slice b zs.length cb) := fun W h => ⟨(h.cell (p := ⟨w.heap.size, 0, none⟩) (by show w.heap.size < _; omega)).trans c0, (h.cell (p := ⟨w.heap.size, 1, none⟩) (by show w.heap.size < _; omega)).trans c1⟩
  go_region_held3 (fun w' => w'.cell? ⟨w.heap.size, 0, none⟩ = some (.slice a vs.length ca) ∧ w'.cell? ⟨w.heap.size, 1, none⟩ = some (.slice b zs.length cb))
    (exact hAll _ (by repeat (first | with_reducible exact Below.refl _ _ | with_reducible exact H6.mono hN1 | with_reducible exact H12.mono hN1 | with_reducible refine Below.drew ?_ | refine Below.setCell ?_ (by show w.heap.size + 1 ≤ w.heap.size + 1; exact Nat.le_refl _) _ | refine Below.alloc ?_ (Nat.le_trans hN1 (by first | omega | exact H6.size | exact H12.size | exact Nat.le_trans H6.size (by simp) | exact Nat.le_trans H12.size (by simp) | (simp; done))) _)))
    (first
          | (refine step_append_row _ rfl (.tmp 3) (.tmp 5) 28 rfl W0.heap.size 3 i0 (.int .i64 0) 1 8 Tryz.underlying28 hi hz0 hz1 hz2 rfl (by decide) (.slice (some ⟨_, 0, none⟩) 0 0) 0 [] rfl (empty_own ?_ ?_) a vs.length ca (intVals vs) rfl hna' (by simp [intVals]) ?_ (intVals_onec vs) (by unfold maxLen; omega) (by omega) ?_ ?_
             · repeat (first | with_reducible exact emp_at rfl | (refine emp_at ?_; simp; done) | with_reducible refine emp_drew ?_ | with_reducible refine emp_keep ?_ _ | with_reducible refine emp_grown ?_ hg6 (by have := H6.size; simp [Value.ownBlock] <;> omega) | with_reducible refine emp_grown ?_ hg12 (by have := H12.size; simp [Value.ownBlock] <;> omega))
             · first | exact Nat.le_refl _ | exact H12.size | omega | (simp; done) | (simp; omega)
             · exact row_news ((ha.below hb0).below ((show Below W0.heap.size W0 _ from (by repeat (first | with_reducible exact Below.refl _ _ | with_reducible exact H6 | with_reducible exact H12 | with_reducible refine Below.drew ?_ | refine Below.alloc ?_ (by first | omega | exact H6.size | exact H12.size | exact Nat.le_trans H6.size (by simp) | exact Nat.le_trans H12.size (by simp) | (simp; done)) _))).mono hb0.size))
             · first | exact H12.size | exact Nat.le_trans H12.size (by simp) | (simp; done) | (simp; omega)
             intro v6 w6 own6 hg6 hat6 hbw6
             simp only [Nat.zero_add, List.nil_append] at own6
             obtain ⟨a6, c6, rfl, hc6⟩ := own_shape own6
             have H6 : Below W0.heap.size W0 w6 := Below.trans (by repeat (first | with_reducible exact Below.refl _ _ | with_reducible exact H6 | with_reducible exact H12 | with_reducible refine Below.drew ?_ | refine Below.alloc ?_ (by first | omega | exact H6.size | exact H12.size | exact Nat.le_trans H6.size (by simp) | exact Nat.le_trans H12.size (by simp) | (simp; done)) _)) hbw6
             have s6 := hg6.size
             try simp only [Value.ownBlock] at hat6
             try simp at s6 hat6
             have own12' := own12
             have ofin := own_after hg6 own12 (by
               intro k hk e
               have hlt := (own12.lt k hk).2
               try simp only [Value.ownBlock] at hk e
               try simp at e
               rcases hat12 with q | q <;> (rw [hk] at q; try simp at q; omega))
             have E := hA1.below H6
             have e0 := E.c 0 _ rfl
             have e1 := E.c 1 _ rfl
             have f12 := E.f)
          | (refine step_append_row _ rfl (.tmp 3) (.tmp 5) 28 rfl W0.heap.size 3 i0 (.int .i64 0) 1 8 Tryz.underlying28 hi hz0 hz1 hz2 rfl (by decide) (.slice (some ⟨_, 0, none⟩) 0 0) 0 [] rfl (empty_own ?_ ?_) a vs.length ca (intVals vs) rfl hna' (by simp [intVals]) ?_ (intVals_onec vs) (by unfold maxLen; omega) (by omega) ?_ ?_
             · repeat (first | with_reducible exact emp_at rfl | (refine emp_at ?_; simp; done) | with_reducible refine emp_drew ?_ | with_reducible refine emp_keep ?_ _ | with_reducible refine emp_grown ?_ hg6 (by have := H6.size; simp [Value.ownBlock] <;> omega) | with_reducible refine emp_grown ?_ hg12 (by have := H12.size; simp [Value.ownBlock] <;> omega))
             · first | exact Nat.le_refl _ | exact H12.size | omega | (simp; done) | (simp; omega)
             · exact row_news ((ha.below hb0).below ((show Below W0.heap.size W0 _ from (by repeat (first | with_reducible exact Below.refl _ _ | with_reducible exact H6 | with_reducible exact H12 | with_reducible refine Below.drew ?_ | refine Below.alloc ?_ (by first | omega | exact H6.size | exact H12.size | exact Nat.le_trans H6.size (by simp) | exact Nat.le_trans H12.size (by simp) | (simp; done)) _))).mono hb0.size))
             · first | exact H12.size | exact Nat.le_trans H12.size (by simp) | (simp; done) | (simp; omega)
             intro v6 w6 own6 hg6 hat6 hbw6
             simp only [Nat.zero_add, List.nil_append] at own6
             obtain ⟨a6, c6, rfl, hc6⟩ := own_shape own6
             have H6 : Below W0.heap.size W0 w6 := Below.trans (by repeat (first | with_reducible exact Below.refl _ _ | with_reducible exact H6 | with_reducible exact H12 | with_reducible refine Below.drew ?_ | refine Below.alloc ?_ (by first | omega | exact H6.size | exact H12.size | exact Nat.le_trans H6.size (by simp) | exact Nat.le_trans H12.size (by simp) | (simp; done)) _)) hbw6
             have s6 := hg6.size
             try simp only [Value.ownBlock] at hat6
             try simp at s6 hat6)
          | (refine step_append_row _ rfl (.tmp 7) (.tmp 9) 28 rfl W0.heap.size 3 i0 (.int .i64 0) 1 8 Tryz.underlying28 hi hz0 hz1 hz2 rfl (by decide) (.slice (some ⟨_, 0, none⟩) 0 0) 0 [] rfl (empty_own ?_ ?_) b zs.length cb (intVals zs) rfl hnb' (by simp [intVals]) ?_ (intVals_onec zs) (by unfold maxLen; omega) (by omega) ?_ ?_
             · repeat (first | with_reducible exact emp_at rfl | (refine emp_at ?_; simp; done) | with_reducible refine emp_drew ?_ | with_reducible refine emp_keep ?_ _ | with_reducible refine emp_grown ?_ hg6 (by have := H6.size; simp [Value.ownBlock] <;> omega) | with_reducible refine emp_grown ?_ hg12 (by have := H12.size; simp [Value.ownBlock] <;> omega))
             · first | exact Nat.le_refl _ | exact H6.size | omega | (simp; done) | (simp; omega)
             · exact row_news ((hb.below hb0).below ((show Below W0.heap.size W0 _ from (by repeat (first | with_reducible exact Below.refl _ _ | with_reducible exact H6 | with_reducible exact H12 | with_reducible refine Below.drew ?_ | refine Below.alloc ?_ (by first | omega | exact H6.size | exact H12.size | exact Nat.le_trans H6.size (by simp) | exact Nat.le_trans H12.size (by simp) | (simp; done)) _))).mono hb0.size))
             · first | exact H6.size | exact Nat.le_trans H6.size (by simp) | (simp; done) | (simp; omega)
             intro v12 w12 own12 hg12 hat12 hbw12
             simp only [Nat.zero_add, List.nil_append] at own12
             obtain ⟨a12, c12, rfl, hc12⟩ := own_shape own12
             have H12 : Below W0.heap.size W0 w12 := Below.trans (by repeat (first | with_reducible exact Below.refl _ _ | with_reducible exact H6 | with_reducible exact H12 | with_reducible refine Below.drew ?_ | refine Below.alloc ?_ (by first | omega | exact H6.size | exact H12.size | exact Nat.le_trans H6.size (by simp) | exact Nat.le_trans H12.size (by simp) | (simp; done)) _)) hbw12
             have s12 := hg12.size
             try simp only [Value.ownBlock] at hat12
             try simp at s12 hat12
             have own6' := own6
             have ofin := own_after hg12 own6 (by
               intro k hk e
               have hlt := (own6.lt k hk).2
               try simp only [Value.ownBlock] at hk e
               try simp at e
               rcases hat6 with q | q <;> (rw [hk] at q; try simp at q; omega))
             have E := hA1.below H12
             have e0 := E.c 0 _ rfl
             have e1 := E.c 1 _ rfl
             have f12 := E.f)
          | (refine step_append_row _ rfl (.tmp 7) (.tmp 9) 28 rfl W0.heap.size 3 i0 (.int .i64 0) 1 8 Tryz.underlying28 hi hz0 hz1 hz2 rfl (by decide) (.slice (some ⟨_, 0, none⟩) 0 0) 0 [] rfl (empty_own ?_ ?_) b zs.length cb (intVals zs) rfl hnb' (by simp [intVals]) ?_ (intVals_onec zs) (by unfold maxLen; omega) (by omega) ?_ ?_
             · repeat (first | with_reducible exact emp_at rfl | (refine emp_at ?_; simp; done) | with_reducible refine emp_drew ?_ | with_reducible refine emp_keep ?_ _ | with_reducible refine emp_grown ?_ hg6 (by have := H6.size; simp [Value.ownBlock] <;> omega) | with_reducible refine emp_grown ?_ hg12 (by have := H12.size; simp [Value.ownBlock] <;> omega))
             · first | exact Nat.le_refl _ | exact H6.size | omega | (simp; done) | (simp; omega)
             · exact row_news ((hb.below hb0).below ((show Below W0.heap.size W0 _ from (by repeat (first | with_reducible exact Below.refl _ _ | with_reducible exact H6 | with_reducible exact H12 | with_reducible refine Below.drew ?_ | refine Below.alloc ?_ (by first | omega | exact H6.size | exact H12.size | exact Nat.le_trans H6.size (by simp) | exact Nat.le_trans H12.size (by simp) | (simp; done)) _))).mono hb0.size))
             · first | exact H6.size | exact Nat.le_trans H6.size (by simp) | (simp; done) | (simp; omega)
             intro v12 w12 own12 hg12 hat12 hbw12
             simp only [Nat.zero_add, List.nil_append] at own12
             obtain ⟨a12, c12, rfl, hc12⟩ := own_shape own12
             have H12 : Below W0.heap.size W0 w12 := Below.trans (by repeat (first | with_reducible exact Below.refl _ _ | with_reducible exact H6 | with_reducible exact H12 | with_reducible refine Below.drew ?_ | refine Below.alloc ?_ (by first | omega | exact H6.size | exact H12.size | exact Nat.le_trans H6.size (by simp) | exact Nat.le_trans H12.size (by simp) | (simp; done)) _)) hbw12
             have s12 := hg12.size
             try simp only [Value.ownBlock] at hat12
             try simp at s12 hat12))
  all_goals
    have hap : ∀ j, (Value.slice a6 vs.length c6).ownBlock = some j → (Value.slice a12 zs.length c12).ownBlock ≠ some j := by
      intro k hk e
      have hlt := (own6.lt k hk).2
      try simp only [Value.ownBlock] at hk e
      rcases hat6 with q | q <;> rcases hat12 with p | p <;> (rw [hk] at q; rw [e] at p; (try simp at q); (try simp at p); omega)
    have tq : Turn w.heap.size (w.heap.size + 2) w12 ((w12.setCell ⟨w.heap.size + 1, 0, none⟩ (.slice a6 vs.length c6)).setCell ⟨w.heap.size + 1, 1, none⟩ (.slice a12 zs.length c12)) := ((turn_set _ _ _ _).trans (turn_set _ _ _ _)).mono (by omega) (by omega)
    have hbE := Turn.below (B := w.heap.size) (hb0.trans (H12.mono (by omega))) tq (Nat.le_refl _) (Nat.le_trans (by omega) H12.size)
    have hin : HeapIn W0.heap.size w12.heap.size w12 a6 c6 a12 c12 (intVals vs) (intVals zs) := ⟨by rw [intVals_length]; exact OwnIn.of ofin, by rw [intVals_length]; exact OwnIn.of own12, by rw [intVals_length, intVals_length]; exact hap⟩
    have hend := Lib.hid (show _ ∧ _ from ⟨(hin.turn tq (.inr (by omega))).mono (lo' := w.heap.size) (by omega) tq.size (Nat.le_refl _), hbE⟩)
    clear hin hbE tq own6' ofin own12 own6 hat6 hat12
    go_wp2
    exact bodyPost_ret (v := heV a6 vs.length c6 a12 zs.length c12) (by simp [results, Tryz.results57, go_sem, e0, e1]) rfl ⟨a6, c6, a12, c12, rfl, hend.out⟩
end Go.Proofs.YtpmmjaceehlpiaaGreatDoor
