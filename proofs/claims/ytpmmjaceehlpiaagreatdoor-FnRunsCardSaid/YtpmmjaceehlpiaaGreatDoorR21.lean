/-
  The copy of a program that a draw makes; what the draws of chapter 6 tell of a program: only its range.
  The draws of chapter 6: a program, one that is bent, a text: of what is drawn only the range is told.
-/
import Derived.Test.YtpmmjaceehlpiaaGreatDoorR14
import Derived.Test.YtpmmjaceehlpiaaGreatDoorR09
import Derived.Test.YtpmmjaceehlpiaaGreatDoorR07
namespace Go.Proofs.YtpmmjaceehlpiaaGreatDoor
open Go Go.RowKit Go.ChangeShapes Go.WideShapes Go.ChangeAt

/-- The range of a drawn program. -/
structure Small (ss : List ByteArray) (p : Int) (es : List Ed) : Prop where
  len : ss.length ≤ 6
  size : ∀ s ∈ ss, s.size ≤ 21
  pts : 0 ≤ p ∧ p ≤ 13
  edges : es.length ≤ 26
  ok : ∀ x ∈ es, x.Ok
/-- A row in blocks from lo on, below hi. -/
def Rw (lo hi : Nat) (w : World) (a : Option Addr) (xs : List Value) : Prop := ∀ k x, xs[k]? = some x → ∃ b o, a = some ⟨b, o, none⟩ ∧ lo ≤ b ∧ b < hi ∧ w.cell? ⟨b, o + k, none⟩ = some x
theorem Rw.keeps {lo hi : Nat} {w w' : World} {a : Option Addr} {xs : List Value} (h : Rw lo hi w a xs) (hk : ∀ b, lo ≤ b → b < hi → w'.heap[b]? = w.heap[b]?) : Rw lo hi w' a xs := by
  intro k x hx
  obtain ⟨b, o, ha, h1, h2, hc⟩ := h k x hx
  exact ⟨b, o, ha, h1, h2, (World.cell?_of_block (hk b h1 h2)).trans hc⟩
theorem Rw.widen {lo hi lo' hi' : Nat} {w : World} {a : Option Addr} {xs : List Value} (h : Rw lo hi w a xs) (h1 : lo' ≤ lo) (h2 : hi ≤ hi') : Rw lo' hi' w a xs := by
  intro k x hx
  obtain ⟨b, o, ha, q1, q2, hc⟩ := h k x hx
  exact ⟨b, o, ha, by omega, by omega, hc⟩
theorem Rw.row {lo hi : Nat} {w : World} {a : Option Addr} {xs : List Value} (h : Rw lo hi w a xs) (hh : hi ≤ w.heap.size) : Row w w.heap.size a xs := by
  intro k x hx
  obtain ⟨b, o, ha, _, h2, hc⟩ := h k x hx
  exact ⟨b, o, ha, by omega, hc⟩
theorem Rw.own {w : World} {base e size n : Nat} {a : Option Addr} {c : Nat} {xs : List Value} (h : w.ownsRow base e size (.slice a n c) n xs) : Rw base w.heap.size w a xs := by
  intro k x hx
  obtain ⟨b, o, ha, hb, hc⟩ := Row.ownedN h k x hx
  exact ⟨b, o, ha, (h.lt b (by rw [ha]; rfl)).1, hb, hc⟩
/-- A program, drawn, in rows made since. -/
def ProgDrawn (g : Nat) (w : World) (e : Ending) (w' : World) : Prop :=
  ∃ a ca b cb ss p es, Small ss p es ∧ ss.length ≤ 4 ∧ es.length ≤ 24 ∧ p ≤ 12 ∧ e = .returned (progV a ss.length ca p b es.length cb) ∧ (a = none → ca = 0) ∧ (b = none → cb = 0) ∧ Rw w.heap.size w'.heap.size w' a (strVals ss) ∧ Rw w.heap.size w'.heap.size w' b (edVals es) ∧ Cur w' g ∧ w.grownBy w' (some g)
/-- A program, drawn and bent. -/
def ProgBent (g : Nat) (w : World) (e : Ending) (w' : World) : Prop :=
  ∃ a ca b cb ss p es, Small ss p es ∧ ss.length ≤ ca ∧ e = .returned (progV a ss.length ca p b es.length cb) ∧ (a = none → ca = 0) ∧ (b = none → cb = 0) ∧ Rw w.heap.size w'.heap.size w' a (strVals ss) ∧ Rw w.heap.size w'.heap.size w' b (edVals es) ∧ Cur w' g ∧ w.grownBy w' (some g)
/-- All that a draw's walk knows: the cursor, the program so far in a box, the answer's box. -/
structure Dn (w : World) (g P : Nat) (x0 x1 x2 : Value) (W : World) : Prop where
  cur : Cur W g
  grown : w.grownBy W (some g)
  p : Box3 W P x0 x1 x2
  pf : ∀ o, W.frozen? ⟨P, o, none⟩ = false
  n : Box3 W w.heap.size (.slice none 0 0) (.int .i64 0) (.slice none 0 0)
  nf : ∀ o, W.frozen? ⟨w.heap.size, o, none⟩ = false
  hg : g < w.heap.size
  hP : w.heap.size < P
  hW : P < W.heap.size
section
variable {w W W' : World} {g P : Nat} {x0 x1 x2 : Value}
theorem Dn.same (h : Dn w g P x0 x1 x2 W) (hc : Cur W' g) (hw : w.grownBy W' (some g)) (hk : ∀ k, w.heap.size ≤ k → k ≤ P → (k = P ∨ k = w.heap.size) → W'.heap[k]? = W.heap[k]?) (hs : W.heap.size ≤ W'.heap.size) : Dn w g P x0 x1 x2 W' :=
  have h1 := h.hP
  have kP : ∀ o, W'.cell? ⟨P, o, none⟩ = W.cell? ⟨P, o, none⟩ := fun o => World.cell?_of_block (hk P (by omega) (Nat.le_refl _) (.inl rfl))
  have kN : ∀ o, W'.cell? ⟨w.heap.size, o, none⟩ = W.cell? ⟨w.heap.size, o, none⟩ := fun o => World.cell?_of_block (hk w.heap.size (Nat.le_refl _) (by omega) (.inr rfl))
  ⟨hc, hw, ⟨(kP 0).trans h.p.1, (kP 1).trans h.p.2.1, (kP 2).trans h.p.2.2⟩, fun o => (World.frozen?_of_block (hk P (by omega) (Nat.le_refl _) (.inl rfl))).trans (h.pf o), ⟨(kN 0).trans h.n.1, (kN 1).trans h.n.2.1, (kN 2).trans h.n.2.2⟩, fun o => (World.frozen?_of_block (hk w.heap.size (Nat.le_refl _) (by omega) (.inr rfl))).trans (h.nf o), h.hg, h1, Nat.lt_of_lt_of_le h.hW hs⟩
theorem Dn.only (h : Dn w g P x0 x1 x2 W) (hc : Cur W' g) (hw : W.grownBy W' (some g)) : Dn w g P x0 x1 x2 W' :=
  h.same hc (only_then h.grown hw) (fun k h1 h2 _ => hw.block k (by have := h.hW; omega) fun e => by have := h.hg; injection e with e; omega) hw.size
theorem Dn.call (h : Dn w g P x0 x1 x2 W) (hb : Below W.heap.size W W') : Dn w g P x0 x1 x2 W' :=
  h.same (h.cur.keeps hb) (only_below h.grown hb) (fun k h1 h2 _ => hb.block k (by have := h.hW; omega)) hb.size
theorem Dn.growR {r : Option Nat} (h : Dn w g P x0 x1 x2 W) (hg : W.grownBy W' r) (hr : ∀ k, r = some k → w.heap.size < k ∧ k ≠ P) : Dn w g P x0 x1 x2 W' :=
  have h1 := h.hg
  have h2 := h.hP
  have h3 := h.hW
  h.same (h.cur.upto ⟨hg.os, hg.tape, hg.output, hg.size, fun k hk => hg.block k (by omega) fun e => by have := (hr k e.symm).1; omega⟩)
    ⟨hg.os.trans h.grown.os, hg.tape.trans h.grown.tape, hg.output.trans h.grown.output, Nat.le_trans h.grown.size hg.size, fun k hk hne => (hg.block k (by omega) fun e => by have := (hr k e.symm).1; omega).trans (h.grown.block k hk hne)⟩
    (fun k q1 q2 q3 => hg.block k (by omega) fun e => by have := hr k e.symm; omega) hg.size
theorem Dn.setP (h : Dn w g P x0 x1 x2 W) (i : Nat) (u : Value) : Dn w g P (if i = 0 then u else x0) (if i = 1 then u else x1) (if i = 2 then u else x2) (W.setCell ⟨P, i, none⟩ u) :=
  have h1 := h.hP
  have kp : ∀ j x, W.cell? ⟨P, j, none⟩ = some x → (W.setCell ⟨P, i, none⟩ u).cell? ⟨P, j, none⟩ = some (if i = j then u else x) := fun j x hx => by
    by_cases hij : i = j
    · subst hij
      rw [if_pos rfl]
      exact World.cell?_setCell_same _ _ _ hx
    · rw [if_neg hij]
      exact (World.cell?_setCell_other _ _ _ _ (fun e => hij (by have := congrArg Addr.off e; simp at this; omega))).trans hx
  have kN : ∀ o, (W.setCell ⟨P, i, none⟩ u).cell? ⟨w.heap.size, o, none⟩ = W.cell? ⟨w.heap.size, o, none⟩ := fun o => World.cell?_of_block (Below.heap_setCell _ _ _ _ (by show w.heap.size ≠ P; omega))
  ⟨h.cur.store (by have := h.hg; omega), only_set_new h.grown (by omega), ⟨kp 0 _ h.p.1, kp 1 _ h.p.2.1, kp 2 _ h.p.2.2⟩, fun o => by simp [go_sem, h.pf o], ⟨(kN 0).trans h.n.1, (kN 1).trans h.n.2.1, (kN 2).trans h.n.2.2⟩,
    fun o => (World.frozen?_of_block (Below.heap_setCell _ _ _ _ (by show w.heap.size ≠ P; omega))).trans (h.nf o), h.hg, h1, by rw [setCell_size]; exact h.hW⟩
end
theorem strVals_one (ss : List ByteArray) : ∀ u ∈ strVals ss, u.oneCell' = true := by
  intro u hu
  obtain ⟨x, _, rfl⟩ := List.mem_map.1 hu
  rfl
/-- A program, copied: two new rows. -/
def CopiedProg (ss : List ByteArray) (p : Int) (es : List Ed) (w : World) (e : Ending) (w' : World) : Prop :=
  ∃ a ca b cb, e = .returned (progV a ss.length ca p b es.length cb) ∧ w'.ownsRow w.heap.size 9 1 (.slice a ss.length ca) ss.length (strVals ss) ∧ w'.ownsRow w.heap.size 85 5 (.slice b es.length cb) es.length (edVals es) ∧
    (∀ j, (Value.slice a ss.length ca).ownBlock = some j → (Value.slice b es.length cb).ownBlock ≠ some j) ∧ Below w.heap.size w w'
set_option maxHeartbeats 1600000 in
set_option maxRecDepth 100000 in
theorem drawCopy (a b : Option Addr) (ca cb : Nat) (ss : List ByteArray) (p : Int) (es : List Ed) (w : World) (hna : a = none → ca = 0) (hnb : b = none → cb = 0) (ha : Row w w.heap.size a (strVals ss)) (hb : Row w w.heap.size b (edVals es)) (hl : ss.length ≤ 100) (he : es.length ≤ 100) :
    Calls Tryz.prog 89 #[progV a ss.length ca p b es.length cb] w (CopiedProg ss p es w) := by
  have hna' : a = none → ss.length = 0 ∧ ca = 0 := fun h => ⟨by subst h; have := row_nil ha; simpa [strVals] using this, hna h⟩
  have hnb' : b = none → es.length = 0 ∧ cb = 0 := fun h => ⟨by subst h; have := congrArg List.length (row_nil hb); rw [edVals_length] at this; simp at this; omega, hnb h⟩
  obtain ⟨i0, hi, hz0, hz1, hz2⟩ := info_parts strInfoP
  obtain ⟨j0, hj, hy0, hy1, hy2⟩ := info_parts edgeInfo
  go_enter Tryz.func89, Tryz.ntmps89
  go_wp2_with fail
  obtain ⟨W0, hW0, hb0, hs0, hA0, hA1⟩ := two_box w (.slice a ss.length ca) (.int .i64 p) (.slice b es.length cb) (.slice none 0 0) (.int .i64 0) (.slice none 0 0) 27
  have hf1 : ∀ o, W0.frozen? ⟨w.heap.size + 1, o, none⟩ = false := fun o => by rw [← hW0]; simp [go_sem]
  rw [hW0]
  clear hW0
  obtain ⟨c0, c1, c2⟩ := hA0
  have hN1 : w.heap.size + 1 ≤ W0.heap.size := by omega
  have hAll : ∀ W, Below (w.heap.size + 1) W0 W → W.cell? ⟨w.heap.size, 0, none⟩ = some (.slice a ss.length ca) ∧ W.cell? ⟨w.heap.size, 1, none⟩ = some (.int .i64 p) ∧ W.cell? ⟨w.heap.size, 2, none⟩ = some (.slice b es.length cb) := fun W h => ⟨(h.cell (p := ⟨w.heap.size, 0, none⟩) (by show w.heap.size < _; omega)).trans c0, (h.cell (p := ⟨w.heap.size, 1, none⟩) (by show w.heap.size < _; omega)).trans c1, (h.cell (p := ⟨w.heap.size, 2, none⟩) (by show w.heap.size < _; omega)).trans c2⟩
  go_region_held3 (fun w' => w'.cell? ⟨w.heap.size, 0, none⟩ = some (.slice a ss.length ca) ∧ w'.cell? ⟨w.heap.size, 1, none⟩ = some (.int .i64 p) ∧ w'.cell? ⟨w.heap.size, 2, none⟩ = some (.slice b es.length cb))
    (exact hAll _ (by repeat (first | with_reducible exact Below.refl _ _ | with_reducible exact H6.mono hN1 | with_reducible exact H12.mono hN1 | with_reducible refine Below.drew ?_ | refine Below.setCell ?_ (by show w.heap.size + 1 ≤ w.heap.size + 1; exact Nat.le_refl _) _ | refine Below.alloc ?_ (Nat.le_trans hN1 (by first | omega | exact H6.size | exact H12.size | exact Nat.le_trans H6.size (by simp) | exact Nat.le_trans H12.size (by simp) | (simp; done))) _)))
    (first
          | (refine step_append_row _ rfl (.tmp 3) (.tmp 5) 24 rfl W0.heap.size 9 i0 (.string ⟨#[]⟩) 1 16 Tryz.underlying24 hi hz0 hz1 hz2 rfl (by decide) (.slice (some ⟨_, 0, none⟩) 0 0) 0 [] rfl (empty_own ?_ ?_) a ss.length ca (strVals ss) rfl hna' (by simp [strVals]) ?_ (strVals_one ss) (by unfold maxLen; omega) (by omega) ?_ ?_
             · repeat (first | with_reducible exact emp_at rfl | exact emp_at (by simp; done) | with_reducible refine emp_drew ?_ | with_reducible refine emp_keep ?_ _ | with_reducible refine emp_grown ?_ hg6 (by have := H6.size; simp [Value.ownBlock] <;> omega) | with_reducible refine emp_grown ?_ hg12 (by have := H12.size; simp [Value.ownBlock] <;> omega))
             · first | exact Nat.le_refl _ | exact H12.size | omega | (simp; done) | (simp; omega)
             · exact row_news ((ha.below hb0).below ((show Below W0.heap.size W0 _ from (by repeat (first | with_reducible exact Below.refl _ _ | with_reducible exact H6 | with_reducible exact H12 | with_reducible refine Below.drew ?_ | refine Below.alloc ?_ (by first | omega | exact H6.size | exact H12.size | exact Nat.le_trans H6.size (by simp) | exact Nat.le_trans H12.size (by simp) | (simp; done)) _))).mono hb0.size))
             · first | exact H12.size | exact Nat.le_trans H12.size (by simp) | (simp; done) | (simp; omega)
             intro v6 w6 own6 hg6 hat6 hbw6
             simp only [Nat.zero_add, List.nil_append] at own6
             obtain ⟨a6, c6, rfl, hc6⟩ := own_form' own6
             have H6 : Below W0.heap.size W0 w6 := Below.trans (by repeat (first | with_reducible exact Below.refl _ _ | with_reducible exact H6 | with_reducible exact H12 | with_reducible refine Below.drew ?_ | refine Below.alloc ?_ (by first | omega | exact H6.size | exact H12.size | exact Nat.le_trans H6.size (by simp) | exact Nat.le_trans H12.size (by simp) | (simp; done)) _)) hbw6
             have s6 := hg6.size
             try simp only [Value.ownBlock] at hat6
             try simp at s6 hat6
             have own12' := own12
             have ofin := own_after hg6 own12 (by
               intro k hk e
               have hlt := (own12.lt k hk).2
               try simp only [Value.ownBlock] at hk e
               try simp at e
               rcases hat12 with q | q <;> (rw [hk] at q; try simp at q; omega))
             obtain ⟨e0, e1, e2⟩ := Box3.keep hA1 (by omega) H6
             have f12 : ∀ o, w6.frozen? ⟨w.heap.size + 1, o, none⟩ = false := fun o => (H6.frozen (p := ⟨w.heap.size + 1, o, none⟩) (by show w.heap.size + 1 < _; omega)).trans (hf1 o))
          | (refine step_append_row _ rfl (.tmp 3) (.tmp 5) 24 rfl W0.heap.size 9 i0 (.string ⟨#[]⟩) 1 16 Tryz.underlying24 hi hz0 hz1 hz2 rfl (by decide) (.slice (some ⟨_, 0, none⟩) 0 0) 0 [] rfl (empty_own ?_ ?_) a ss.length ca (strVals ss) rfl hna' (by simp [strVals]) ?_ (strVals_one ss) (by unfold maxLen; omega) (by omega) ?_ ?_
             · repeat (first | with_reducible exact emp_at rfl | exact emp_at (by simp; done) | with_reducible refine emp_drew ?_ | with_reducible refine emp_keep ?_ _ | with_reducible refine emp_grown ?_ hg6 (by have := H6.size; simp [Value.ownBlock] <;> omega) | with_reducible refine emp_grown ?_ hg12 (by have := H12.size; simp [Value.ownBlock] <;> omega))
             · first | exact Nat.le_refl _ | exact H12.size | omega | (simp; done) | (simp; omega)
             · exact row_news ((ha.below hb0).below ((show Below W0.heap.size W0 _ from (by repeat (first | with_reducible exact Below.refl _ _ | with_reducible exact H6 | with_reducible exact H12 | with_reducible refine Below.drew ?_ | refine Below.alloc ?_ (by first | omega | exact H6.size | exact H12.size | exact Nat.le_trans H6.size (by simp) | exact Nat.le_trans H12.size (by simp) | (simp; done)) _))).mono hb0.size))
             · first | exact H12.size | exact Nat.le_trans H12.size (by simp) | (simp; done) | (simp; omega)
             intro v6 w6 own6 hg6 hat6 hbw6
             simp only [Nat.zero_add, List.nil_append] at own6
             obtain ⟨a6, c6, rfl, hc6⟩ := own_form' own6
             have H6 : Below W0.heap.size W0 w6 := Below.trans (by repeat (first | with_reducible exact Below.refl _ _ | with_reducible exact H6 | with_reducible exact H12 | with_reducible refine Below.drew ?_ | refine Below.alloc ?_ (by first | omega | exact H6.size | exact H12.size | exact Nat.le_trans H6.size (by simp) | exact Nat.le_trans H12.size (by simp) | (simp; done)) _)) hbw6
             have s6 := hg6.size
             try simp only [Value.ownBlock] at hat6
             try simp at s6 hat6)
          | (refine step_append_row _ rfl (.tmp 9) (.tmp 11) 25 rfl W0.heap.size 85 j0 (.agg #[.int .i64 0, .int .i64 0, .int .i64 0, .string ⟨#[]⟩, .string ⟨#[]⟩]) 5 56 Tryz.underlying25 hj hy0 hy1 hy2 rfl (by decide) (.slice (some ⟨_, 0, none⟩) 0 0) 0 [] rfl (empty_own ?_ ?_) b es.length cb (edVals es) rfl hnb' (edVals_length es) ?_ (edVals_one es) (by unfold maxLen; omega) (by omega) ?_ ?_
             · repeat (first | with_reducible exact emp_at rfl | exact emp_at (by simp; done) | with_reducible refine emp_drew ?_ | with_reducible refine emp_keep ?_ _ | with_reducible refine emp_grown ?_ hg6 (by have := H6.size; simp [Value.ownBlock] <;> omega) | with_reducible refine emp_grown ?_ hg12 (by have := H12.size; simp [Value.ownBlock] <;> omega))
             · first | exact Nat.le_refl _ | exact H6.size | omega | (simp; done) | (simp; omega)
             · exact row_news ((hb.below hb0).below ((show Below W0.heap.size W0 _ from (by repeat (first | with_reducible exact Below.refl _ _ | with_reducible exact H6 | with_reducible exact H12 | with_reducible refine Below.drew ?_ | refine Below.alloc ?_ (by first | omega | exact H6.size | exact H12.size | exact Nat.le_trans H6.size (by simp) | exact Nat.le_trans H12.size (by simp) | (simp; done)) _))).mono hb0.size))
             · first | exact H6.size | exact Nat.le_trans H6.size (by simp) | (simp; done) | (simp; omega)
             intro v12 w12 own12 hg12 hat12 hbw12
             simp only [Nat.zero_add, List.nil_append] at own12
             obtain ⟨a12, c12, rfl, hc12⟩ := own_form' own12
             have H12 : Below W0.heap.size W0 w12 := Below.trans (by repeat (first | with_reducible exact Below.refl _ _ | with_reducible exact H6 | with_reducible exact H12 | with_reducible refine Below.drew ?_ | refine Below.alloc ?_ (by first | omega | exact H6.size | exact H12.size | exact Nat.le_trans H6.size (by simp) | exact Nat.le_trans H12.size (by simp) | (simp; done)) _)) hbw12
             have s12 := hg12.size
             try simp only [Value.ownBlock] at hat12
             try simp at s12 hat12
             have own6' := own6
             have ofin := own_after hg12 own6 (by
               intro k hk e
               have hlt := (own6.lt k hk).2
               try simp only [Value.ownBlock] at hk e
               try simp at e
               rcases hat6 with q | q <;> (rw [hk] at q; try simp at q; omega))
             obtain ⟨e0, e1, e2⟩ := Box3.keep hA1 (by omega) H12
             have f12 : ∀ o, w12.frozen? ⟨w.heap.size + 1, o, none⟩ = false := fun o => (H12.frozen (p := ⟨w.heap.size + 1, o, none⟩) (by show w.heap.size + 1 < _; omega)).trans (hf1 o))
          | (refine step_append_row _ rfl (.tmp 9) (.tmp 11) 25 rfl W0.heap.size 85 j0 (.agg #[.int .i64 0, .int .i64 0, .int .i64 0, .string ⟨#[]⟩, .string ⟨#[]⟩]) 5 56 Tryz.underlying25 hj hy0 hy1 hy2 rfl (by decide) (.slice (some ⟨_, 0, none⟩) 0 0) 0 [] rfl (empty_own ?_ ?_) b es.length cb (edVals es) rfl hnb' (edVals_length es) ?_ (edVals_one es) (by unfold maxLen; omega) (by omega) ?_ ?_
             · repeat (first | with_reducible exact emp_at rfl | exact emp_at (by simp; done) | with_reducible refine emp_drew ?_ | with_reducible refine emp_keep ?_ _ | with_reducible refine emp_grown ?_ hg6 (by have := H6.size; simp [Value.ownBlock] <;> omega) | with_reducible refine emp_grown ?_ hg12 (by have := H12.size; simp [Value.ownBlock] <;> omega))
             · first | exact Nat.le_refl _ | exact H6.size | omega | (simp; done) | (simp; omega)
             · exact row_news ((hb.below hb0).below ((show Below W0.heap.size W0 _ from (by repeat (first | with_reducible exact Below.refl _ _ | with_reducible exact H6 | with_reducible exact H12 | with_reducible refine Below.drew ?_ | refine Below.alloc ?_ (by first | omega | exact H6.size | exact H12.size | exact Nat.le_trans H6.size (by simp) | exact Nat.le_trans H12.size (by simp) | (simp; done)) _))).mono hb0.size))
             · first | exact H6.size | exact Nat.le_trans H6.size (by simp) | (simp; done) | (simp; omega)
             intro v12 w12 own12 hg12 hat12 hbw12
             simp only [Nat.zero_add, List.nil_append] at own12
             obtain ⟨a12, c12, rfl, hc12⟩ := own_form' own12
             have H12 : Below W0.heap.size W0 w12 := Below.trans (by repeat (first | with_reducible exact Below.refl _ _ | with_reducible exact H6 | with_reducible exact H12 | with_reducible refine Below.drew ?_ | refine Below.alloc ?_ (by first | omega | exact H6.size | exact H12.size | exact Nat.le_trans H6.size (by simp) | exact Nat.le_trans H12.size (by simp) | (simp; done)) _)) hbw12
             have s12 := hg12.size
             try simp only [Value.ownBlock] at hat12
             try simp at s12 hat12))
  all_goals
    have hbE := (((H12.mono hN1).setCell (p := ⟨w.heap.size + 1, 0, none⟩) (Nat.le_refl _) (.slice a6 ss.length c6)).setCell (p := ⟨w.heap.size + 1, 1, none⟩) (Nat.le_refl _) (.int .i64 p)).setCell (p := ⟨w.heap.size + 1, 2, none⟩) (Nat.le_refl _) (.slice a12 es.length c12)
    have key : ∀ (base e size n : Nat) (v : Value) (xs : List Value), W0.heap.size ≤ base → w12.ownsRow base e size v n xs → (((w12.setCell ⟨w.heap.size + 1, 0, none⟩ (.slice a6 ss.length c6)).setCell ⟨w.heap.size + 1, 1, none⟩ (.int .i64 p)).setCell ⟨w.heap.size + 1, 2, none⟩ (.slice a12 es.length c12)).ownsRow base e size v n xs := fun base e size n v xs hbase h =>
      have hlt : w.heap.size + 1 < base := by omega
      ownsRow_setCell_below (ownsRow_setCell_below (ownsRow_setCell_below h (a := ⟨w.heap.size + 1, 0, none⟩) hlt _) (a := ⟨w.heap.size + 1, 1, none⟩) hlt _) (a := ⟨w.heap.size + 1, 2, none⟩) hlt _
    have k1 := own_base (key _ _ _ _ _ _ (Nat.le_refl _) ofin) hb0.size
    have k2 := own_base (key _ _ _ _ _ _ (Nat.le_refl _) own12) hb0.size
    have hdist : ∀ j, (Value.slice a6 ss.length c6).ownBlock = some j → (Value.slice a12 es.length c12).ownBlock ≠ some j := by
      intro j h1 h2
      have hlt := (own6'.lt j h1).2
      have hge := (own12.lt j h2).2
      try simp only [Value.ownBlock] at h1 h2
      rcases hat6 with q | q <;> rcases hat12 with r | r <;> (rw [h1] at q; rw [h2] at r; try simp at q r; omega)
    clear key own6' ofin own12 own6 hat6 hat12
    go_wp2
    refine bodyPost_ret (v := progV a6 ss.length c6 p a12 es.length c12) (by simp [results, Tryz.results89, go_sem, e0, e1, e2]) rfl ⟨a6, c6, a12, c12, rfl, k1, k2, hdist, (hb0.trans (hbE.mono (by omega)))⟩

theorem drawSamples (w : World) : Calls Tryz.prog 120 #[] w fun e w' => ∃ ss : List ByteArray, ss.length = 10 ∧ (∀ s ∈ ss, s.size ≤ 100) ∧ e = .returned (.slice (some ⟨w.heap.size, 0, none⟩) 10 10) ∧ w.alloc (.cells (strVals ss).toArray 9) = w' := by
  go_enter Tryz.func120, Tryz.ntmps120
  go_wp2
  go_ret
  exact ⟨[_, _, _, _, _, _, _, _, _, _], rfl, by decide, rfl, rfl⟩

end Go.Proofs.YtpmmjaceehlpiaaGreatDoor

namespace Go.Proofs.YtpmmjaceehlpiaaGreatDoor
open Go Go.RowKit Go.ChangeShapes Go.WideShapes Go.ChangeAt

set_option maxHeartbeats 1600000 in
set_option maxRecDepth 100000 in
theorem drawSample (g : Nat) (w : World) (hcur : Cur w g) : Calls Tryz.prog 84 #[.pointer (some ⟨g, 0, none⟩)] w (ProgDrawn g w) := by
  have hg0 := hcur.lt
  go_enter Tryz.func84, Tryz.ntmps84
  go_wp2_with fail
  obtain ⟨W0, hW0, hb0, hs0, hA0⟩ := one_box w (.slice none 0 0) (.int .i64 0) (.slice none 0 0) 27
  have hf0 : ∀ o, W0.frozen? ⟨w.heap.size, o, none⟩ = false := fun o => by rw [← hW0]; simp [go_sem]
  rw [hW0]
  clear hW0
  have hG0 : w.grownBy W0 (some g) := only_below (only_same _ _) hb0
  refine (drawSamples _).mono ?_
  rintro e _ ⟨ss, hlen, hsz, rfl, rfl⟩
  have hc1 : Cur (W0.alloc (.cells (strVals ss).toArray 9)) g := (hcur.keeps hb0).alloc _
  go_wp2_with fail
  refine (drawBelow g 9 _ (by omega) (by omega) hc1).mono ?_
  rintro e w2 ⟨x, hx, rfl, hc2, hw2⟩
  have hw02 : W0.grownBy w2 (some g) := only_then (only_alloc (only_same _ _) _) hw2
  obtain ⟨k2, f2⟩ := gcell hw02
  have hn1 : ¬ w.heap.size = g := by omega
  have a0 := (k2 w.heap.size 0 hs0 hn1).trans hA0.1
  have a1 := (k2 w.heap.size 1 hs0 hn1).trans hA0.2.1
  have a2 := (k2 w.heap.size 2 hs0 hn1).trans hA0.2.2
  have g2 : ∀ o, w2.frozen? ⟨w.heap.size, o, none⟩ = false := fun o => (f2 w.heap.size o hs0 hn1).trans (hf0 o)
  obtain ⟨sx, hsx⟩ : ∃ sx, ss[1 + x]? = some sx := ⟨ss[1 + x]'(by omega), List.getElem?_eq_getElem (by omega)⟩
  have hcell : w2.cell? ⟨W0.heap.size, 1 + x, none⟩ = some (.string sx) := by
    rw [hw2.cell_far ⟨W0.heap.size, 1 + x, none⟩ (by simp) (by intro e; injection e with e; simp only at e; omega), World.cell?_alloc_at _ _ _ _ rfl]
    simp [strVals, hsx]
  have hzx : sx.size ≤ 100 := hsz sx (List.mem_of_getElem? hsx)
  obtain ⟨q, vs, p, es, hP, hgot⟩ := parsed sx
  have hs2 : w.heap.size < w2.heap.size := Nat.lt_of_lt_of_le hs0 hw02.size
  clear k2 f2 hf0 hA0 hc1 hw2
  go_wp2_with fail
  refine (specParseProg sx _ (by omega)).mono fun e w3 h => ?_
  obtain ⟨ra, rc, rb, rd, M, rfl, hrc, hrd, hM, hM', ho, _, ho2, hb3⟩ := hgot _ _ _ h
  clear h hgot hcell
  have hs3 : w.heap.size < w3.heap.size := Nat.lt_of_lt_of_le hs2 hb3.size
  have kc : ∀ o, w3.cell? ⟨w.heap.size, o, none⟩ = w2.cell? ⟨w.heap.size, o, none⟩ := fun o => hb3.cell (p := ⟨w.heap.size, o, none⟩) hs2
  have b0 := (kc 0).trans a0
  have b1 := (kc 1).trans a1
  have b2 := (kc 2).trans a2
  have g3 : ∀ o, w3.frozen? ⟨w.heap.size, o, none⟩ = false := fun o => (hb3.frozen (p := ⟨w.heap.size, o, none⟩) hs2).trans (g2 o)
  clear kc a0 a1 a2 g2
  have hn3 : ¬ w.heap.size = w3.heap.size := by omega
  have hc3 := hc2.keeps hb3
  have hG3 : w.grownBy w3 (some g) := only_below (only_then hG0 hw02) hb3
  have hcE : Cur (((w3.setCell ⟨w.heap.size, 0, none⟩ (.slice ra vs.length rc)).setCell ⟨w.heap.size, 1, none⟩ (.int .i64 p)).setCell ⟨w.heap.size, 2, none⟩ (.slice rb es.length rd)) g := ((hc3.store hg0).store hg0).store hg0
  have hgE := only_set_new (only_set_new (only_set_new hG3 (Nat.le_refl _) (i := 0) (u := .slice ra vs.length rc)) (Nat.le_refl _) (i := 1) (u := .int .i64 p)) (Nat.le_refl _) (i := 2) (u := .slice rb es.length rd)
  have key : ∀ (base e size n : Nat) (v : Value) (xs : List Value), w2.heap.size ≤ base → w3.ownsRow base e size v n xs → (((w3.setCell ⟨w.heap.size, 0, none⟩ (.slice ra vs.length rc)).setCell ⟨w.heap.size, 1, none⟩ (.int .i64 p)).setCell ⟨w.heap.size, 2, none⟩ (.slice rb es.length rd)).ownsRow base e size v n xs := fun base e size n v xs hbase h =>
    have hlt : w.heap.size < base := Nat.lt_of_lt_of_le hs2 hbase
    ownsRow_setCell_below (ownsRow_setCell_below (ownsRow_setCell_below h (a := ⟨w.heap.size, 0, none⟩) hlt _) (a := ⟨w.heap.size, 1, none⟩) hlt _) (a := ⟨w.heap.size, 2, none⟩) hlt _
  have k1 := key _ _ _ _ _ _ (Nat.le_refl _) ho
  have k2 := key _ _ _ _ _ _ hM ho2
  have hna := own_none ho
  have hnb := own_none ho2
  clear key ho ho2
  go_wp2
  refine bodyPost_ret (v := progV ra vs.length rc p rb es.length rd) (by simp [results, Tryz.results84, go_sem, b0, b1, b2, hs3]) rfl ⟨ra, rc, rb, rd, vs, p, es, ⟨by have := hP.len; omega, fun s hs => by have := hP.size s hs; omega, by have := hP.pts; omega, by have := hP.edges; omega, hP.ok⟩, hP.len, hP.edges, hP.pts.2, rfl, hna, hnb, (Rw.own (k1.alloc _)).widen (by omega) (Nat.le_refl _), (Rw.own (k2.alloc _)).widen (by omega) (Nat.le_refl _), hcE.alloc _, only_alloc hgE _⟩

abbrev set3P (W : World) (N : Nat) (u0 u1 u2 : Value) : World := ((W.setCell ⟨N, 0, none⟩ u0).setCell ⟨N, 1, none⟩ u1).setCell ⟨N, 2, none⟩ u2
theorem set3_heap (W : World) (N : Nat) (u0 u1 u2 : Value) (k : Nat) (hk : k ≠ N) : (set3P W N u0 u1 u2).heap[k]? = W.heap[k]? :=
  ((Below.heap_setCell _ _ _ _ hk).trans (Below.heap_setCell _ _ _ _ hk)).trans (Below.heap_setCell _ _ _ _ hk)
theorem set3_size (W : World) (N : Nat) (u0 u1 u2 : Value) : (set3P W N u0 u1 u2).heap.size = W.heap.size := by simp [World.setCell]
theorem Rw.set3P {lo hi N : Nat} {W : World} {a : Option Addr} {xs : List Value} (h : Rw lo hi W a xs) (hN : N < lo) (u0 u1 u2 : Value) : Rw lo hi (set3P W N u0 u1 u2) a xs :=
  h.keeps fun b h1 _ => set3_heap W N u0 u1 u2 b (by omega)
theorem cur_set3 {W : World} {g N : Nat} (h : Cur W g) (hg : g < N) (u0 u1 u2 : Value) : Cur (set3P W N u0 u1 u2) g := ((h.store hg).store hg).store hg
theorem only_set3 {w W : World} {g N : Nat} (h : w.grownBy W (some g)) (hN : w.heap.size ≤ N) (u0 u1 u2 : Value) : w.grownBy (set3P W N u0 u1 u2) (some g) := only_set_new (only_set_new (only_set_new h hN) hN) hN
theorem Rw.below {lo hi : Nat} {w w' : World} {a : Option Addr} {xs : List Value} (h : Rw lo hi w a xs) (hb : Below hi w w') : Rw lo hi w' a xs := h.keeps fun b _ h2 => hb.block b h2
theorem Rw.only {lo hi g : Nat} {w w' : World} {a : Option Addr} {xs : List Value} (h : Rw lo hi w a xs) (hw : w.grownBy w' (some g)) (hg : g < lo) (hh : hi ≤ w.heap.size) : Rw lo hi w' a xs :=
  h.keeps fun b h1 h2 => hw.block b (by omega) fun e => by injection e with e; omega

set_option maxHeartbeats 3200000 in
set_option maxRecDepth 100000 in
theorem drawProg (g : Nat) (w : World) (hcur : Cur w g) : Calls Tryz.prog 44 #[.pointer (some ⟨g, 0, none⟩)] w (ProgDrawn g w) := by
  have hg0 := hcur.lt
  obtain ⟨i0, hi, hz0, hz1, hz2⟩ := info_parts edgeInfo
  go_enter Tryz.func44, Tryz.ntmps44
  go_wp2_with fail
  obtain ⟨W0, hW0, hb0, hs0, hA0⟩ := one_box w (.slice none 0 0) (.int .i64 0) (.slice none 0 0) 27
  have hf0 : ∀ o, W0.frozen? ⟨w.heap.size, o, none⟩ = false := fun o => by rw [← hW0]; simp [go_sem]
  rw [hW0]
  clear hW0
  have hG0 : w.grownBy W0 (some g) := only_below (only_same _ _) hb0
  refine (drawOnce g 3 _ (by omega) (by omega) (hcur.keeps hb0)).mono ?_
  rintro e w1 ⟨y, rfl, hc1, hw1⟩
  obtain ⟨k1, f1⟩ := gcell hw1
  have hn1 : ¬ w.heap.size = g := by omega
  have hs1 : w.heap.size < w1.heap.size := Nat.lt_of_lt_of_le hs0 hw1.size
  have a0 := (k1 w.heap.size 0 hs0 hn1).trans hA0.1
  have a1 := (k1 w.heap.size 1 hs0 hn1).trans hA0.2.1
  have a2 := (k1 w.heap.size 2 hs0 hn1).trans hA0.2.2
  have g1 : ∀ o, w1.frozen? ⟨w.heap.size, o, none⟩ = false := fun o => (f1 w.heap.size o hs0 hn1).trans (hf0 o)
  have hG1 := only_then hG0 hw1
  clear k1 f1 hA0 hf0
  cases y with
  | false =>
    go_wp2_with fail
    refine (drawSample g _ hc1).mono ?_
    rintro e w2 ⟨ra, rc, rb, rd, vs, p, es, hS, hl, he, hp, rfl, hna, hnb, h1, h2, hc2, hw2⟩
    obtain ⟨k2, f2⟩ := gcell hw2
    have b0 := (k2 w.heap.size 0 hs1 hn1).trans a0
    have b1 := (k2 w.heap.size 1 hs1 hn1).trans a1
    have b2 := (k2 w.heap.size 2 hs1 hn1).trans a2
    have g2 : ∀ o, w2.frozen? ⟨w.heap.size, o, none⟩ = false := fun o => (f2 w.heap.size o hs1 hn1).trans (g1 o)
    have hs2 : w.heap.size < w2.heap.size := Nat.lt_of_lt_of_le hs1 hw2.size
    clear k2 f2 a0 a1 a2
    go_wp2
    refine bodyPost_ret (v := progV ra vs.length rc p rb es.length rd) (by simp [results, Tryz.results44, go_sem, b0, b1, b2]) rfl ⟨ra, rc, rb, rd, vs, p, es, hS, hl, he, hp, rfl, hna, hnb, (h1.set3P hs1 (.slice ra vs.length rc) (.int .i64 p) (.slice rb es.length rd)).widen (by omega) (by rw [set3_size]; exact Nat.le_refl _), (h2.set3P hs1 (.slice ra vs.length rc) (.int .i64 p) (.slice rb es.length rd)).widen (by omega) (by rw [set3_size]; exact Nat.le_refl _), cur_set3 hc2 hg0 _ _ _, only_set3 (only_then hG1 hw2) (Nat.le_refl _) _ _ _⟩
  | true =>
    go_wp2_with fail
    refine (drawVars _).mono ?_
    rintro e _ ⟨rfl, rfl⟩
    go_wp2_with fail
    refine (drawBelow g 4 _ (by omega) (by omega) (hc1.alloc _)).mono ?_
    rintro e w2 ⟨x, hx, rfl, hc2, hw2⟩
    have hw12 : w1.grownBy w2 (some g) := only_then (only_alloc (only_same _ _) _) hw2
    obtain ⟨k2, f2⟩ := gcell hw12
    have b0 := (k2 w.heap.size 0 hs1 hn1).trans a0
    have b1 := (k2 w.heap.size 1 hs1 hn1).trans a1
    have b2 := (k2 w.heap.size 2 hs1 hn1).trans a2
    have g2 : ∀ o, w2.frozen? ⟨w.heap.size, o, none⟩ = false := fun o => (f2 w.heap.size o hs1 hn1).trans (g1 o)
    have hzz2 : w1.heap.size < w2.heap.size := by have := hw2.size; simp at this; omega
    have hG2 := only_then hG1 hw12
    have hV : Rw (w.heap.size + 1) (w1.heap.size + 1) w2 (some ⟨w1.heap.size, 0, none⟩) (strVals vars3) := by
      intro k u hu
      have hb := beside_at (w := w1) (g := g) (t := 9) (strVals vars3).toArray rfl (by omega)
      obtain ⟨b, o, e, hne, hlt, hc⟩ := hb k u (by simpa using hu)
      injection e with e
      injection e with e1 e2 _
      subst e1 e2
      refine ⟨w1.heap.size, 0, rfl, by omega, by omega, ?_⟩
      rw [hw2.cell_far ⟨w1.heap.size, 0 + k, none⟩ (by simp) (by intro e; injection e with e; simp only at e; omega)]
      exact hc
    clear k2 f2 a0 a1 a2 g1 hw2
    have hq : (2 : Int) + (x : Int) = ((2 + x : Nat) : Int) := by omega
    obtain ⟨q, hqe⟩ : ∃ q, 2 + x = q := ⟨_, rfl⟩
    rw [hqe] at hq
    have hq5 : 2 ≤ q ∧ q ≤ 5 := by omega
    go_wp2_with fail
    obtain ⟨W3, hW3, hb3, hs3, hP3⟩ := one_box w2 (.slice (some ⟨w1.heap.size, 0, none⟩) 3 3) (.int .i64 (q : Int)) (.slice none 0 0) 27
    have pf3 : ∀ o, W3.frozen? ⟨w2.heap.size, o, none⟩ = false := fun o => by rw [← hW3]; simp [go_sem]
    rw [hW3]
    clear hW3
    have D3 : Dn w g w2.heap.size (.slice (some ⟨w1.heap.size, 0, none⟩) 3 3) (.int .i64 (q : Int)) (.slice none 0 0) W3 :=
      ⟨hc2.keeps hb3, only_below hG2 hb3, hP3, pf3, ⟨(hb3.cell (p := ⟨w.heap.size, 0, none⟩) (by show w.heap.size < _; omega)).trans b0, (hb3.cell (p := ⟨w.heap.size, 1, none⟩) (by show w.heap.size < _; omega)).trans b1, (hb3.cell (p := ⟨w.heap.size, 2, none⟩) (by show w.heap.size < _; omega)).trans b2⟩, fun o => (hb3.frozen (p := ⟨w.heap.size, o, none⟩) (by show w.heap.size < _; omega)).trans (g2 o), hg0, by omega, hs3⟩
    have hV3 : Rw (w.heap.size + 1) w2.heap.size W3 (some ⟨w1.heap.size, 0, none⟩) (strVals vars3) := (hV.widen (Nat.le_refl _) (by omega)).below hb3
    refine (drawBelow g 6 _ (by omega) (by omega) D3.cur).mono ?_
    rintro e w4 ⟨n, hn, rfl, hc4, hw4⟩
    have D4 := D3.only hc4 hw4
    have hV4 := hV3.only hw4 (by omega) (by omega)
    clear D3 hV3 hP3 pf3 hb3 hw4 hc4 b0 b1 b2 g2 hV
    have hwP := D4.hP
    have hz14 : w1.heap.size < w2.heap.size := hzz2
    clear hs3 hzz2 hw12 hc2 hG2
    generalize w2.heap.size = P at *
    have hq0 : 0 < q := by omega
    have hq256 : q ≤ 1099511627776 := by omega
    go_wp2
    go_loopw [5] (fun i wr => ∃ (k : Nat) (v2 : Value) (es : List Ed), k ≤ n ∧ i = .int .i64 (k : Int) ∧ es.length = k ∧ (∀ z ∈ es, z.Ok) ∧ Dn w g P (.slice (some ⟨w1.heap.size, 0, none⟩) 3 3) (.int .i64 (q : Int)) v2 wr ∧ wr.ownsRow (P + 1) 85 5 v2 k (edVals es) ∧ Rw (w.heap.size + 1) P wr (some ⟨w1.heap.size, 0, none⟩) (strVals vars3))
      (fun i _ => n - (intOf i).toNat)
    case atStart => exact ⟨0, _, [], Nat.zero_le _, rfl, rfl, fun z hz => by simp at hz, D4, World.ownsRow_nil _ _ _ _, hV4⟩
    case round =>
      obtain ⟨k, v2, es, hk, rfl, hel, hok, D, hoe, hVr⟩ := hrel
      obtain ⟨v2a, v2c, rfl, hkc⟩ := own_form' hoe
      by_cases hlt : k < n
      · have hp2 := D.p.2.2
        have hpf := D.pf
        have Dd := D.call (Below.drew (Below.refl _ _))
        have hPW := D.hW
        have HOK := Lib.hid hok
        have HEL := Lib.hid hel
        clear hok hel
        have O0 := own_keeps hoe (Below.drew (Below.refl _ _))
        have V0 : Rw (w.heap.size + 1) P wr.drew (some ⟨w1.heap.size, 0, none⟩) (strVals vars3) := hVr
        go_wp2
        have hp1 := D.p.2.1
        have HD := Lib.hid Dd
        have HO0 := Lib.hid O0
        have HV0 := Lib.hid V0
        have hwP1 : w.heap.size + 1 ≤ P := hwP
        clear D Dd O0 V0 D4 hV4 hb0 hs0 hG0 hc1 hw1 hG1 hcur hoe hVr hn1 hs1 hq hqe hx hkc hPW hz14
        go_region_law
          (first
            | (go_simp; go_at_call 46; (with_reducible refine (drawBelow g q _ hq0 hq256 HD.out.cur).mono ?_); rintro e w5 ⟨y1, hy1, rfl, hc5, hw5⟩; have D5 := HD.out.only hc5 hw5; have O5 := own_other HO0.out hw5 (fun j hj e => by have := (HO0.out.lt j hj).1; injection e with e; omega); have d5 := D5.p.2.2; have d51 := D5.p.2.1; have V5 := HV0.out.only hw5 (by omega) (Nat.le_of_lt HD.out.hW))
            | (go_simp; go_at_call 46; (with_reducible refine (drawBelow g q _ hq0 hq256 D5.cur).mono ?_); rintro e w6 ⟨y2, hy2, rfl, hc6, hw6⟩; have D6 := D5.only hc6 hw6; have O6 := own_other O5 hw6 (fun j hj e => by have := (O5.lt j hj).1; injection e with e; omega); have d6 := D6.p.2.2; have V6 := V5.only hw6 (by omega) (Nat.le_of_lt D5.hW))
            | (go_simp; go_at_call 86; (with_reducible refine (drawStmt g _ D6.cur).mono ?_); rintro e w7 ⟨kk, sa, sb, hk1, hk2, hsa, hsb, rfl, hc7, hw7⟩; have D7 := D6.only hc7 hw7; have O7 := own_other O6 hw7 (fun j hj e => by have := (O6.lt j hj).1; injection e with e; omega); have d7 := D7.p.2.2; have z7 := D7.hW; have z7' : ¬ P = w7.heap.size := (by omega); have V7 := V6.only hw7 (by omega) (Nat.le_of_lt D6.hW))
            | (refine step_append_lies _ rfl (.tmp 24) (.tmp 36) 25 rfl (P + 1) 85 i0 (.agg #[.int .i64 0, .int .i64 0, .int .i64 0, .string ⟨#[]⟩, .string ⟨#[]⟩]) 5 56 Tryz.underlying25 hi hz0 hz1 hz2 rfl (by decide) (.slice v2a k v2c) k (edVals es) ?_ (O7.alloc _) ⟨w7.heap.size, 0, none⟩ 1 1 (edCells ⟨(y1 : Int), (y2 : Int), kk, sa, sb⟩) ?_ rfl ?_ ?_ (by omega) ?_ ?_ ?_ _ rfl ?_
               · simp [Act.eval, Act.put]
               · simp [Act.eval, Act.put]
               · exact news_edge w7 ⟨(y1 : Int), (y2 : Int), kk, sa, sb⟩
               · exact edCells_one _
               · unfold maxLen; omega
               · omega
               · exact Nat.le_trans (Nat.succ_le_of_lt D7.hW) (by simp)
               intro g9 cap9 w9 hown9 hg9 hat9 hlt9
               have D9 := (D7.call ((Below.refl _ _).alloc (Nat.le_refl _) _)).growR hg9 (fun j hj => by have := (O7.lt j hj).1; omega)
               have d9 := D9.p.2.2
               have pf9 := D9.pf
               have V9 : Rw (w.heap.size + 1) P w9 (some ⟨w1.heap.size, 0, none⟩) (strVals vars3) := (V7.below ((Below.refl P w7).alloc (Nat.le_of_lt D7.hW) _)).keeps (fun b q1 q2 => hg9.block b (by have := D7.hW; simp; omega) (fun e => by have := (O7.lt b e.symm).1; omega))))
        all_goals
          have hrel := D9.setP 2 (.slice (some ⟨g9, 0, none⟩) (k + 1) cap9)
          have hoe9 : (w9.setCell ⟨P, 2, none⟩ (.slice (some ⟨g9, 0, none⟩) (k + 1) cap9)).ownsRow (P + 1) 85 5 (.slice (some ⟨g9, 0, none⟩) (k + 1) cap9) (k + 1) (edVals (es ++ [⟨(y1 : Int), (y2 : Int), kk, sa, sb⟩])) := by
            rw [edVals_snoc]
            exact ownsRow_setCell_below hown9 (a := ⟨P, 2, none⟩) (Nat.lt_succ_self P) _
          have hV9 : Rw (w.heap.size + 1) P (w9.setCell ⟨P, 2, none⟩ (.slice (some ⟨g9, 0, none⟩) (k + 1) cap9)) (some ⟨w1.heap.size, 0, none⟩) (strVals vars3) := V9.keeps (fun b _ q2 => Below.heap_setCell _ _ _ _ (Nat.ne_of_lt q2))
          have hok9 : ∀ z ∈ es ++ [(⟨(y1 : Int), (y2 : Int), kk, sa, sb⟩ : Ed)], z.Ok := all_snoc HOK.out ⟨⟨by simp only; omega, by simp only; omega⟩, ⟨by simp only; omega, by simp only; omega⟩, ⟨by simp only; omega, by simp only; omega⟩, by unfold maxLen; simp only; omega, by unfold maxLen; simp only; omega⟩
          have hel9 : (es ++ [(⟨(y1 : Int), (y2 : Int), kk, sa, sb⟩ : Ed)]).length = k + 1 := by rw [List.length_append, HEL.out]; rfl
          go_wp2
          go_roundw
          case rel => first | exact ⟨k + 1, _, _, by omega, by go_num, hel9, hok9, hrel, hoe9, hV9⟩ | ((repeat apply Exists.intro); exact ⟨⟨k + 1, _, _, by omega, by go_num, hel9, hok9, hrel, hoe9, hV9⟩, rfl⟩)
          case measure => simp [intOf]; omega
      · have hkn : n = k := by omega
        subst hkn
        obtain ⟨p0, p1, p2⟩ := D.p
        obtain ⟨n0, n1, n2⟩ := D.n
        have nf := D.nf
        have hzw : w.heap.size < wr.heap.size := Nat.lt_trans D.hP D.hW
        have hNP : ¬ w.heap.size = P := by omega
        have hvb : n ≤ v2c := hkc
        have hnone : v2a = none → v2c = 0 := own_none hoe
        have hr1 : Rw w.heap.size wr.heap.size (set3P wr w.heap.size (.slice (some ⟨w1.heap.size, 0, none⟩) 3 3) (.int .i64 (q : Int)) (.slice v2a n v2c)) (some ⟨w1.heap.size, 0, none⟩) (strVals vars3) := (hVr.set3P (Nat.lt_succ_self _) _ _ _).widen (by omega) (Nat.le_of_lt D.hW)
        have hr2 : Rw w.heap.size wr.heap.size (set3P wr w.heap.size (.slice (some ⟨w1.heap.size, 0, none⟩) 3 3) (.int .i64 (q : Int)) (.slice v2a n v2c)) v2a (edVals es) := ((Rw.own hoe).set3P (by omega) _ _ _).widen (by omega) (Nat.le_refl _)
        have hcE := cur_set3 D.cur hg0 (.slice (some ⟨w1.heap.size, 0, none⟩) 3 3) (.int .i64 (q : Int)) (.slice v2a n v2c)
        have hgE := only_set3 D.grown (Nat.le_refl _) (.slice (some ⟨w1.heap.size, 0, none⟩) 3 3) (.int .i64 (q : Int)) (.slice v2a n v2c)
        have HEL := Lib.hid hel
        have HOK := Lib.hid hok
        clear hel hok hoe hVr
        go_wp2
        refine bodyPost_ret (v := progV (some ⟨w1.heap.size, 0, none⟩) 3 3 (q : Int) v2a n v2c) (by simp [results, Tryz.results44, go_sem, n0, n1, n2]) rfl ⟨some ⟨w1.heap.size, 0, none⟩, 3, v2a, v2c, vars3, (q : Int), es, ⟨by decide, vars3_size, by omega, by rw [HEL.out]; omega, HOK.out⟩, by decide, by rw [HEL.out]; omega, by omega, by rw [HEL.out]; rfl, (fun h => by cases h), hnone, (by rw [show (set3P wr w.heap.size (.slice (some ⟨w1.heap.size, 0, none⟩) 3 3) (.int .i64 (q : Int)) (.slice v2a n v2c)).heap.size = wr.heap.size from set3_size _ _ _ _ _]; exact hr1), (by rw [show (set3P wr w.heap.size (.slice (some ⟨w1.heap.size, 0, none⟩) 3 3) (.int .i64 (q : Int)) (.slice v2a n v2c)).heap.size = wr.heap.size from set3_size _ _ _ _ _]; exact hr2), hcE, hgE⟩
end Go.Proofs.YtpmmjaceehlpiaaGreatDoor
