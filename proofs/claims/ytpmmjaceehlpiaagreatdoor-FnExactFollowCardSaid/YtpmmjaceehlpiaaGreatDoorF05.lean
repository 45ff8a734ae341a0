/-
  Several texts of one proof in one file, in the order in which they build.
-/
import Derived.Deep.AppendLies
import Derived.Deep.RegionHeld3
import Derived.Handy
import Derived.Test.YtpmmjaceehlpiaaGreatDoorF01
import Derived.Test.YtpmmjaceehlpiaaGreatDoorF04
import Derived.Test.YtpmmjaceehlpiaaGreatDoorF03
/-
  An append of any row to a row of one's own, as a step of a region.
-/
namespace Go.Proofs.YtpmmjaceehlpiaaGreatDoor
open Go Go.RowKit Go.ChangeShapes Go.WideShapes Go.ChangeAt

theorem own_none {w : World} {base e size n : Nat} {a : Option Addr} {c : Nat} {xs : List Value} (h : w.ownsRow base e size (.slice a n c) n xs) : a = none → c = 0 := by
  intro ha
  rcases h.2 with ⟨hv, _⟩ | ⟨g, cap, cur, hv, _⟩
  · injection hv
  · injection hv with h1
    rw [ha] at h1
    cases h1

/-- A slice that was made empty, and owns its block. -/
theorem empty_own {w : World} {base g : Nat} {e : TypeId} {size : Nat} (h : w.heap[g]? = some (.cells #[] e (0, 0))) (hb : base ≤ g) : w.ownsRow base e size (.slice (some ⟨g, 0, none⟩) 0 0) 0 [] :=
  ⟨by simp, .inr ⟨g, 0, #[], rfl, hb, h, Nat.le_refl _, Nat.zero_le _, by simp, by simp⟩⟩

/-- append(v, xs...) as a step of a region: xs is any row, nil let in. -/
theorem step_append_row {P : Program} {ops : Array Oper} {o : Oper} {act : Act} {K : Act → World → Prop} {Q : Exit → Act → World → Prop} {E : Prop} (w : World) (hgd : o.guard = none) (s x : Operand) (t : TypeId)
    (ho : o.op = .call { callee := .builtin .append, args := #[s, x], argTypes := #[t, t] })
    (base : Nat) (e : TypeId) (i : TypeInfo) (z : Value) (size bytes : Nat) (ht : P.underlying t = some (.slice e)) (hi : P.info? e = some i) (hz : i.zero = some z)
    (hsize : i.size = size) (hby : i.bytes = bytes) (hzs : z.cells.size = size) (hsz : 0 < size)
    (v : Value) (n : Nat) (xs : List Value) (hs : act.eval s = v) (hown : w.ownsRow base e size v n xs)
    (a : Option Addr) (m c : Nat) (news : List Value) (hx : act.eval x = .slice a m c) (hnil : a = none → m = 0 ∧ c = 0) (hl : news.length = m * size) (hnews : ∀ ad, a = some ad → ∀ j u, news[j]? = some u → w.cell? (ad.add j) = some u) (h1 : ∀ u ∈ news, u.oneCell' = true)
    (h63 : n + m ≤ maxLen) (hbytes : (n + m) * bytes ≤ 140737488355328) (hbase : base ≤ w.heap.size)
    (h : ∀ v' w', w'.ownsRow base e size v' (n + m) (xs ++ news) → w.grownBy w' v.ownBlock → (v'.ownBlock = v.ownBlock ∨ v'.ownBlock = some w.heap.size) → Below base w w' → K (act.put o.dst v') w') :
    if Region.wanted o (yielded ops act.tmps) = true then Oper.wp P o act w K Q else E := by
  have hw : Region.wanted o (yielded ops act.tmps) = true := by simp [Region.wanted, hgd]
  rw [if_pos hw]
  cases a with
  | none =>
    obtain ⟨rfl, rfl⟩ := hnil rfl
    have hr := run_append_owned_none (P := P) w base t o.type e i size ht hi v n xs hown
    have hn0 : news = [] := List.eq_nil_of_length_eq_zero (by simpa using hl)
    subst hn0
    unfold Oper.wp execOp
    simp only [ho, resolve, invoke, builtin, Sem.run_bind, Sem.run_pure, Result.andThen_ok, List.map_toArray, List.map_cons, List.map_nil, hs, hx, hr]
    exact h v w (by simpa using hown) ⟨rfl, rfl, rfl, Nat.le_refl _, fun _ _ _ => rfl⟩ (.inl rfl) (Below.refl _ _)
  | some ad =>
    obtain ⟨v', w', hr, h2, h3, _, h5⟩ := run_append_own_at (P := P) w base t o.type e i z size bytes ht hi hz hsize hby hzs hsz v n xs hown ad m c news hl (hnews ad rfl) h1 h63 hbytes hbase
    unfold Oper.wp execOp
    simp only [ho, resolve, invoke, builtin, Sem.run_bind, Sem.run_pure, Result.andThen_ok, List.map_toArray, List.map_cons, List.map_nil, hs, hx, hr]
    exact h v' w' h2 h3 h5 ((Below.refl base w).grown h3 hbase fun k hk => (hown.lt k hk).1)

theorem row_nil {w : World} {B : Nat} {xs : List Value} (h : Row w B none xs) : xs = [] := by
  match xs, h with
  | [], _ => rfl
  | x :: r, h =>
    obtain ⟨b, o, e, _⟩ := h 0 x rfl
    cases e
theorem row_news {w : World} {B : Nat} {a : Option Addr} {xs : List Value} (h : Row w B a xs) : ∀ ad, a = some ad → ∀ j u, xs[j]? = some u → w.cell? (ad.add j) = some u := by
  intro ad ha j u hj
  obtain ⟨b, o, e, _, hc⟩ := h j u hj
  rw [ha] at e
  injection e with e
  rw [e, add_plain]
  exact hc

theorem emp_at {W : World} {g : Nat} {t : TypeId} (h : g = W.heap.size) : (W.alloc (.cells #[] t)).heap[g]? = some (.cells #[] t (0, 0)) := by
  subst h
  exact heap_alloc_new W _
theorem emp_drew {W : World} {g : Nat} {t : TypeId} (h : W.heap[g]? = some (.cells #[] t (0, 0))) : W.drew.heap[g]? = some (.cells #[] t (0, 0)) := h
theorem emp_keep {W : World} {g : Nat} {t : TypeId} (h : W.heap[g]? = some (.cells #[] t (0, 0))) (o : Obj) : (W.alloc o).heap[g]? = some (.cells #[] t (0, 0)) := by
  refine (Below.heap_alloc W o g ?_).trans h
  rcases Nat.lt_or_ge g W.heap.size with h1 | h1
  · exact h1
  · rw [Array.getElem?_eq_none h1] at h; cases h
theorem emp_grown {W W' : World} {g : Nat} {t : TypeId} {r : Option Nat} (h : W.heap[g]? = some (.cells #[] t (0, 0))) (hg : W.grownBy W' r) (hne : some g ≠ r) : W'.heap[g]? = some (.cells #[] t (0, 0)) := by
  refine (hg.block g ?_ hne).trans h
  rcases Nat.lt_or_ge g W.heap.size with h1 | h1
  · exact h1
  · rw [Array.getElem?_eq_none h1] at h; cases h

/-- What the call owned before an append to another row, it owns behind it (an alloc or a draw may lie between). -/
theorem own_after {w W w' : World} {base e size n : Nat} {v : Value} {xs : List Value} {row : Option Nat} (hg : W.grownBy w' row) (h : w.ownsRow base e size v n xs) (hne : ∀ k, v.ownBlock = some k → some k ≠ row) (hb : Below w.heap.size w W := by first | exact Below.refl _ _ | exact Below.drew (Below.refl _ _) | exact (Below.refl _ _).alloc (Nat.le_refl _) _) : w'.ownsRow base e size v n xs :=
  own_other (own_keeps h hb) hg hne
end Go.Proofs.YtpmmjaceehlpiaaGreatDoor
/-
  The program's copy of a heap.
-/
namespace Go.Proofs.YtpmmjaceehlpiaaGreatDoor
open Go Go.RowKit

theorem heapIn_pair {lo b3 b4 : Nat} {W : World} {oa ob : Option Addr} {oca ocb : Nat} {vs zs : List Int} (h3 : W.ownsRow b3 3 1 (.slice oa vs.length oca) vs.length (intVals vs)) (h4 : W.ownsRow b4 3 1 (.slice ob zs.length ocb) zs.length (intVals zs)) (l3 : lo ≤ b3) (l4 : lo ≤ b4)
    (ha : ∀ j, (Value.slice oa vs.length oca).ownBlock = some j → (Value.slice ob zs.length ocb).ownBlock ≠ some j) : HeapIn lo W.heap.size W oa oca ob ocb (intVals vs) (intVals zs) :=
  ⟨by rw [intVals_length]; exact (OwnIn.of h3).mono l3 (Nat.le_refl _) (Nat.le_refl _), by rw [intVals_length]; exact (OwnIn.of h4).mono l4 (Nat.le_refl _) (Nat.le_refl _), by rw [intVals_length, intVals_length]; exact ha⟩
set_option maxHeartbeats 1600000 in
set_option maxRecDepth 100000 in
theorem implCopy (a b : Option Addr) (ca cb : Nat) (vs zs : List Int) (w : World) (hl : vs.length ≤ 1048576) (he : zs.length ≤ 1048576) (hr : HeapAt w a b vs zs) :
    Calls Tryz.prog 52 #[heV a vs.length ca b zs.length cb] w (MadeHeap vs zs w) := by
  go_enter Tryz.func52, Tryz.ntmps52
  go_wp2_with fail
  obtain ⟨W0, hW0, hb0, hA0, hA1⟩ := two_boxL w [.slice a vs.length ca, .slice b zs.length cb] [.slice none 0 0, .slice none 0 0] 30 30
  simp only [List.toArray] at hW0
  rw [hW0]
  clear hW0
  have hz0 := hA1.lt
  have hA : ∀ W, Below W0.heap.size W0 W → (W.cell? ⟨w.heap.size, 0, none⟩ = some (.slice a vs.length ca) ∧ W.cell? ⟨w.heap.size, 1, none⟩ = some (.slice b zs.length cb)) ∧ HeapAt W a b vs zs ∧ BoxL W (w.heap.size + 1) [.slice none 0 0, .slice none 0 0] := fun W hb =>
    have h0 := hA0.below hb
    ⟨⟨h0.c 0 _ rfl, h0.c 1 _ rfl⟩, hr.below (hb0.trans (hb.mono hb0.size)) (Nat.le_refl _), hA1.below hb⟩
  have hS : ∀ W, Below (w.heap.size + 1) W0 W → W.cell? ⟨w.heap.size, 0, none⟩ = some (.slice a vs.length ca) ∧ W.cell? ⟨w.heap.size, 1, none⟩ = some (.slice b zs.length cb) := fun W h =>
    ⟨(h.cell (p := ⟨w.heap.size, 0, none⟩) (by show w.heap.size < _; omega)).trans (hA0.c 0 _ rfl), (h.cell (p := ⟨w.heap.size, 1, none⟩) (by show w.heap.size < _; omega)).trans (hA0.c 1 _ rfl)⟩
  have HA := Lib.hid hA
  have HS := Lib.hid hS
  clear hA hS hA0 hA1 hr
  go_region_held3 (fun W => W.cell? ⟨w.heap.size, 0, none⟩ = some (.slice a vs.length ca) ∧ W.cell? ⟨w.heap.size, 1, none⟩ = some (.slice b zs.length cb))
    (exact HS.out _ (by repeat (first | with_reducible exact Below.refl _ _ | with_reducible exact H4.mono (Nat.le_of_lt hz0) | with_reducible exact H3.mono (Nat.le_of_lt hz0) | with_reducible refine Below.drew ?_ | refine Below.setCell ?_ (Nat.le_refl (w.heap.size + 1)) _)))
    (first
      | (go_at_call 97; (with_reducible refine (libClone a ca vs _ hl (HA.out _ (Below.drew (Below.refl _ _))).2.1.v).mono ?_); rintro e w3 ⟨oa, oca, rfl, ho3, hb3⟩; have H3 : Below W0.heap.size W0 w3 := Below.trans (Below.drew (Below.refl _ _)) (hb3.mono (Nat.le_refl _)))
      | (go_at_call 97; (with_reducible refine (libClone b cb zs _ he (HA.out _ H3).2.1.z).mono ?_); rintro e w4 ⟨ob, ocb, rfl, ho4, hb4⟩; have H4 : Below W0.heap.size W0 w4 := H3.trans (hb4.mono H3.size); have E4 := (HA.out _ H4).2.2; have e40 := E4.c 0 _ rfl; have e41 := E4.c 1 _ rfl; have f4 := E4.f; have l4 := E4.lt; have hin := heapIn_pair (lo := W0.heap.size) (own_keeps ho3 hb4) ho4 (Nat.le_refl _) H3.size (fun j h1 h2 => by have h1 := (ho3.lt j h1).2; have h2 := (ho4.lt j h2).1; omega)))
  have tq : Turn w.heap.size (w.heap.size + 2) w4 ((w4.setCell ⟨w.heap.size + 1, 0, none⟩ (.slice oa vs.length oca)).setCell ⟨w.heap.size + 1, 1, none⟩ (.slice ob zs.length ocb)) := ((turn_set _ _ _ _).trans (turn_set _ _ _ _)).mono (by omega) (by omega)
  have hbE := Turn.below (B := w.heap.size) (hb0.trans (H4.mono (by omega))) tq (Nat.le_refl _) (Nat.le_trans (by omega) H4.size)
  have hend := Lib.hid (show _ ∧ _ from ⟨(hin.turn tq (.inr (by omega))).mono (lo' := w.heap.size) (by omega) tq.size (Nat.le_refl _), hbE⟩)
  clear hin hbE tq ho3 ho4
  go_wp2
  exact bodyPost_ret (v := heV oa vs.length oca ob zs.length ocb) (by simp [results, Tryz.results52, go_sem, e40, e41]) rfl ⟨oa, oca, ob, ocb, rfl, hend.out⟩
end Go.Proofs.YtpmmjaceehlpiaaGreatDoor
/-
  The model's copy of a heap.
-/
namespace Go.Proofs.YtpmmjaceehlpiaaGreatDoor
open Go Go.RowKit

theorem intVals_onec (l : List Int) : ∀ u ∈ intVals l, u.oneCell' = true := by
  intro u hu
  obtain ⟨x, _, rfl⟩ := List.mem_map.1 hu
  rfl
set_option maxHeartbeats 1600000 in
set_option maxRecDepth 100000 in
theorem specCopy (a b : Option Addr) (ca cb : Nat) (vs zs : List Int) (w : World) (hna : a = none → ca = 0) (hnb : b = none → cb = 0) (hr : HeapAt w a b vs zs) (hl : vs.length ≤ 100) (he : zs.length ≤ 100) :
    Calls Tryz.prog 57 #[heV a vs.length ca b zs.length cb] w (MadeHeap vs zs w) := by
  obtain ⟨ha, hb⟩ := hr
  have hna' : a = none → vs.length = 0 ∧ ca = 0 := fun h => ⟨by subst h; have := row_nil ha; simpa [intVals] using this, hna h⟩
  have hnb' : b = none → zs.length = 0 ∧ cb = 0 := fun h => ⟨by subst h; have := row_nil hb; simpa [intVals] using this, hnb h⟩
  obtain ⟨i0, hi, hz0, hz1, hz2⟩ := info_parts intInfo
  go_enter Tryz.func57, Tryz.ntmps57
  go_wp2_with fail
  obtain ⟨W0, hW0, hb0, hA0, hA1⟩ := two_boxL w [.slice a vs.length ca, .slice b zs.length cb] [.slice none 0 0, .slice none 0 0] 30 30
  simp only [List.toArray] at hW0
  rw [hW0]
  clear hW0
  have hs0 := hA1.lt
  have c0 := hA0.c 0 _ rfl
  have c1 := hA0.c 1 _ rfl
  have hN1 : w.heap.size + 1 ≤ W0.heap.size := by omega
  have hAll : ∀ W, Below (w.heap.size + 1) W0 W → W.cell? ⟨w.heap.size, 0, none⟩ = some (.slice a vs.length ca) ∧ W.cell? ⟨w.heap.size, 1, none⟩ = some (.slice b zs.length cb) := fun W h => ⟨(h.cell (p := ⟨w.heap.size, 0, none⟩) (by show w.heap.size < _; omega)).trans c0, (h.cell (p := ⟨w.heap.size, 1, none⟩) (by show w.heap.size < _; omega)).trans c1⟩
  go_region_held3 (fun w' => w'.cell? ⟨w.heap.size, 0, none⟩ = some (.slice a vs.length ca) ∧ w'.cell? ⟨w.heap.size, 1, none⟩ = some (.slice b zs.length cb))
    (exact hAll _ (by repeat (first | with_reducible exact Below.refl _ _ | with_reducible exact H6.mono hN1 | with_reducible exact H12.mono hN1 | with_reducible refine Below.drew ?_ | refine Below.setCell ?_ (by show w.heap.size + 1 ≤ w.heap.size + 1; exact Nat.le_refl _) _ | refine Below.alloc ?_ (Nat.le_trans hN1 (by first | omega | exact H6.size | exact H12.size | exact Nat.le_trans H6.size (by simp) | exact Nat.le_trans H12.size (by simp) | (simp; done))) _)))
    (first
          | (refine step_append_row _ rfl (.tmp 3) (.tmp 5) 28 rfl W0.heap.size 3 i0 (.int .i64 0) 1 8 Tryz.underlying28 hi hz0 hz1 hz2 rfl (by decide) (.slice (some ⟨_, 0, none⟩) 0 0) 0 [] rfl (empty_own ?_ ?_) a vs.length ca (intVals vs) rfl hna' (by simp [intVals]) ?_ (intVals_onec vs) (by unfold maxLen; omega) (by omega) ?_ ?_
             · repeat (first | with_reducible exact emp_at rfl | (refine emp_at ?_; simp; done) | with_reducible refine emp_drew ?_ | with_reducible refine emp_keep ?_ _ | with_reducible refine emp_grown ?_ hg6 (by have := H6.size; simp [Value.ownBlock] <;> omega) | with_reducible refine emp_grown ?_ hg12 (by have := H12.size; simp [Value.ownBlock] <;> omega))
             · first | exact Nat.le_refl _ | exact H12.size | omega | (simp; done) | (simp; omega)
             · exact row_news ((ha.below hb0).below ((show Below W0.heap.size W0 _ from (by repeat (first | with_reducible exact Below.refl _ _ | with_reducible exact H6 | with_reducible exact H12 | with_reducible refine Below.drew ?_ | refine Below.alloc ?_ (by first | omega | exact H6.size | exact H12.size | exact Nat.le_trans H6.size (by simp) | exact Nat.le_trans H12.size (by simp) | (simp; done)) _))).mono hb0.size))
             · first | exact H12.size | exact Nat.le_trans H12.size (by simp) | (simp; done) | (simp; omega)
             intro v6 w6 own6 hg6 hat6 hbw6
             simp only [Nat.zero_add, List.nil_append] at own6
             obtain ⟨a6, c6, rfl, hc6⟩ := own_shape own6
             have H6 : Below W0.heap.size W0 w6 := Below.trans (by repeat (first | with_reducible exact Below.refl _ _ | with_reducible exact H6 | with_reducible exact H12 | with_reducible refine Below.drew ?_ | refine Below.alloc ?_ (by first | omega | exact H6.size | exact H12.size | exact Nat.le_trans H6.size (by simp) | exact Nat.le_trans H12.size (by simp) | (simp; done)) _)) hbw6
             have s6 := hg6.size
             try simp only [Value.ownBlock] at hat6
             try simp at s6 hat6
             have own12' := own12
             have ofin := own_after hg6 own12 (by
               intro k hk e
               have hlt := (own12.lt k hk).2
               try simp only [Value.ownBlock] at hk e
               try simp at e
               rcases hat12 with q | q <;> (rw [hk] at q; try simp at q; omega))
             have E := hA1.below H6
             have e0 := E.c 0 _ rfl
             have e1 := E.c 1 _ rfl
             have f12 := E.f)
          | (refine step_append_row _ rfl (.tmp 3) (.tmp 5) 28 rfl W0.heap.size 3 i0 (.int .i64 0) 1 8 Tryz.underlying28 hi hz0 hz1 hz2 rfl (by decide) (.slice (some ⟨_, 0, none⟩) 0 0) 0 [] rfl (empty_own ?_ ?_) a vs.length ca (intVals vs) rfl hna' (by simp [intVals]) ?_ (intVals_onec vs) (by unfold maxLen; omega) (by omega) ?_ ?_
             · repeat (first | with_reducible exact emp_at rfl | (refine emp_at ?_; simp; done) | with_reducible refine emp_drew ?_ | with_reducible refine emp_keep ?_ _ | with_reducible refine emp_grown ?_ hg6 (by have := H6.size; simp [Value.ownBlock] <;> omega) | with_reducible refine emp_grown ?_ hg12 (by have := H12.size; simp [Value.ownBlock] <;> omega))
             · first | exact Nat.le_refl _ | exact H12.size | omega | (simp; done) | (simp; omega)
             · exact row_news ((ha.below hb0).below ((show Below W0.heap.size W0 _ from (by repeat (first | with_reducible exact Below.refl _ _ | with_reducible exact H6 | with_reducible exact H12 | with_reducible refine Below.drew ?_ | refine Below.alloc ?_ (by first | omega | exact H6.size | exact H12.size | exact Nat.le_trans H6.size (by simp) | exact Nat.le_trans H12.size (by simp) | (simp; done)) _))).mono hb0.size))
             · first | exact H12.size | exact Nat.le_trans H12.size (by simp) | (simp; done) | (simp; omega)
             intro v6 w6 own6 hg6 hat6 hbw6
             simp only [Nat.zero_add, List.nil_append] at own6
             obtain ⟨a6, c6, rfl, hc6⟩ := own_shape own6
             have H6 : Below W0.heap.size W0 w6 := Below.trans (by repeat (first | with_reducible exact Below.refl _ _ | with_reducible exact H6 | with_reducible exact H12 | with_reducible refine Below.drew ?_ | refine Below.alloc ?_ (by first | omega | exact H6.size | exact H12.size | exact Nat.le_trans H6.size (by simp) | exact Nat.le_trans H12.size (by simp) | (simp; done)) _)) hbw6
             have s6 := hg6.size
             try simp only [Value.ownBlock] at hat6
             try simp at s6 hat6)
          | (refine step_append_row _ rfl (.tmp 7) (.tmp 9) 28 rfl W0.heap.size 3 i0 (.int .i64 0) 1 8 Tryz.underlying28 hi hz0 hz1 hz2 rfl (by decide) (.slice (some ⟨_, 0, none⟩) 0 0) 0 [] rfl (empty_own ?_ ?_) b zs.length cb (intVals zs) rfl hnb' (by simp [intVals]) ?_ (intVals_onec zs) (by unfold maxLen; omega) (by omega) ?_ ?_
             · repeat (first | with_reducible exact emp_at rfl | (refine emp_at ?_; simp; done) | with_reducible refine emp_drew ?_ | with_reducible refine emp_keep ?_ _ | with_reducible refine emp_grown ?_ hg6 (by have := H6.size; simp [Value.ownBlock] <;> omega) | with_reducible refine emp_grown ?_ hg12 (by have := H12.size; simp [Value.ownBlock] <;> omega))
             · first | exact Nat.le_refl _ | exact H6.size | omega | (simp; done) | (simp; omega)
             · exact row_news ((hb.below hb0).below ((show Below W0.heap.size W0 _ from (by repeat (first | with_reducible exact Below.refl _ _ | with_reducible exact H6 | with_reducible exact H12 | with_reducible refine Below.drew ?_ | refine Below.alloc ?_ (by first | omega | exact H6.size | exact H12.size | exact Nat.le_trans H6.size (by simp) | exact Nat.le_trans H12.size (by simp) | (simp; done)) _))).mono hb0.size))
             · first | exact H6.size | exact Nat.le_trans H6.size (by simp) | (simp; done) | (simp; omega)
             intro v12 w12 own12 hg12 hat12 hbw12
             simp only [Nat.zero_add, List.nil_append] at own12
             obtain ⟨a12, c12, rfl, hc12⟩ := own_shape own12
             have H12 : Below W0.heap.size W0 w12 := Below.trans (by repeat (first | with_reducible exact Below.refl _ _ | with_reducible exact H6 | with_reducible exact H12 | with_reducible refine Below.drew ?_ | refine Below.alloc ?_ (by first | omega | exact H6.size | exact H12.size | exact Nat.le_trans H6.size (by simp) | exact Nat.le_trans H12.size (by simp) | (simp; done)) _)) hbw12
             have s12 := hg12.size
             try simp only [Value.ownBlock] at hat12
             try simp at s12 hat12
             have own6' := own6
             have ofin := own_after hg12 own6 (by
               intro k hk e
               have hlt := (own6.lt k hk).2
               try simp only [Value.ownBlock] at hk e
               try simp at e
               rcases hat6 with q | q <;> (rw [hk] at q; try simp at q; omega))
             have E := hA1.below H12
             have e0 := E.c 0 _ rfl
             have e1 := E.c 1 _ rfl
             have f12 := E.f)
          | (refine step_append_row _ rfl (.tmp 7) (.tmp 9) 28 rfl W0.heap.size 3 i0 (.int .i64 0) 1 8 Tryz.underlying28 hi hz0 hz1 hz2 rfl (by decide) (.slice (some ⟨_, 0, none⟩) 0 0) 0 [] rfl (empty_own ?_ ?_) b zs.length cb (intVals zs) rfl hnb' (by simp [intVals]) ?_ (intVals_onec zs) (by unfold maxLen; omega) (by omega) ?_ ?_
             · repeat (first | with_reducible exact emp_at rfl | (refine emp_at ?_; simp; done) | with_reducible refine emp_drew ?_ | with_reducible refine emp_keep ?_ _ | with_reducible refine emp_grown ?_ hg6 (by have := H6.size; simp [Value.ownBlock] <;> omega) | with_reducible refine emp_grown ?_ hg12 (by have := H12.size; simp [Value.ownBlock] <;> omega))
             · first | exact Nat.le_refl _ | exact H6.size | omega | (simp; done) | (simp; omega)
             · exact row_news ((hb.below hb0).below ((show Below W0.heap.size W0 _ from (by repeat (first | with_reducible exact Below.refl _ _ | with_reducible exact H6 | with_reducible exact H12 | with_reducible refine Below.drew ?_ | refine Below.alloc ?_ (by first | omega | exact H6.size | exact H12.size | exact Nat.le_trans H6.size (by simp) | exact Nat.le_trans H12.size (by simp) | (simp; done)) _))).mono hb0.size))
             · first | exact H6.size | exact Nat.le_trans H6.size (by simp) | (simp; done) | (simp; omega)
             intro v12 w12 own12 hg12 hat12 hbw12
             simp only [Nat.zero_add, List.nil_append] at own12
             obtain ⟨a12, c12, rfl, hc12⟩ := own_shape own12
             have H12 : Below W0.heap.size W0 w12 := Below.trans (by repeat (first | with_reducible exact Below.refl _ _ | with_reducible exact H6 | with_reducible exact H12 | with_reducible refine Below.drew ?_ | refine Below.alloc ?_ (by first | omega | exact H6.size | exact H12.size | exact Nat.le_trans H6.size (by simp) | exact Nat.le_trans H12.size (by simp) | (simp; done)) _)) hbw12
             have s12 := hg12.size
             try simp only [Value.ownBlock] at hat12
             try simp at s12 hat12))
  all_goals
    have hap : ∀ j, (Value.slice a6 vs.length c6).ownBlock = some j → (Value.slice a12 zs.length c12).ownBlock ≠ some j := by
      intro k hk e
      have hlt := (own6.lt k hk).2
      try simp only [Value.ownBlock] at hk e
      rcases hat6 with q | q <;> rcases hat12 with p | p <;> (rw [hk] at q; rw [e] at p; (try simp at q); (try simp at p); omega)
    have tq : Turn w.heap.size (w.heap.size + 2) w12 ((w12.setCell ⟨w.heap.size + 1, 0, none⟩ (.slice a6 vs.length c6)).setCell ⟨w.heap.size + 1, 1, none⟩ (.slice a12 zs.length c12)) := ((turn_set _ _ _ _).trans (turn_set _ _ _ _)).mono (by omega) (by omega)
    have hbE := Turn.below (B := w.heap.size) (hb0.trans (H12.mono (by omega))) tq (Nat.le_refl _) (Nat.le_trans (by omega) H12.size)
    have hin : HeapIn W0.heap.size w12.heap.size w12 a6 c6 a12 c12 (intVals vs) (intVals zs) := ⟨by rw [intVals_length]; exact OwnIn.of ofin, by rw [intVals_length]; exact OwnIn.of own12, by rw [intVals_length, intVals_length]; exact hap⟩
    have hend := Lib.hid (show _ ∧ _ from ⟨(hin.turn tq (.inr (by omega))).mono (lo' := w.heap.size) (by omega) tq.size (Nat.le_refl _), hbE⟩)
    clear hin hbE tq own6' ofin own12 own6 hat6 hat12
    go_wp2
    exact bodyPost_ret (v := heV a6 vs.length c6 a12 zs.length c12) (by simp [results, Tryz.results57, go_sem, e0, e1]) rfl ⟨a6, c6, a12, c12, rfl, hend.out⟩
end Go.Proofs.YtpmmjaceehlpiaaGreatDoor
/-
  What Exec comes to, case by case; how it ends.
-/
namespace Go.Proofs.YtpmmjaceehlpiaaGreatDoor
open Go Go.RowKit Go.ChangeShapes Go.WideShapes Go.ChangeAt

theorem heapIn_two {lo b3 b4 : Nat} {w3 X w4 : World} {oa ob : Option Addr} {oca ocb : Nat} {vs zs : List Int} (hlo : lo ≤ b3) (h3 : w3.ownsRow b3 3 1 (.slice oa vs.length oca) vs.length (intVals vs)) (hX : Below w3.heap.size w3 X) (hb : Below X.heap.size X w4)
    (h4 : w4.ownsRow b4 3 1 (.slice ob zs.length ocb) zs.length (intVals zs)) (hb4 : w3.heap.size ≤ b4) (hl4 : lo ≤ b4 := by omega) : HeapIn lo w4.heap.size w4 oa oca ob ocb (intVals vs) (intVals zs) := by
  have hB := hX.trans (hb.mono hX.size)
  have k3 := own_keeps h3 hB
  refine ⟨?_, ?_, ?_⟩
  · rw [intVals_length]
    exact (OwnIn.of k3).mono hlo (Nat.le_refl _) (Nat.le_refl _)
  · rw [intVals_length]
    exact (OwnIn.of h4).mono hl4 (Nat.le_refl _) (Nat.le_refl _)
  · rw [intVals_length, intVals_length]
    intro j h1 h2
    have := (h3.lt j h1).2
    have := (h4.lt j h2).1
    omega
theorem exec_code {ss : List ByteArray} {k c : Int} {a b : ByteArray} {vs zs us ys : List Int} (h1 : stmtB ss k a b = true) (h2 : heapB (ss.length : Int) vs zs = true) (h : doS k (place ss a).toNat (place ss b).toNat vs zs = (c, us, ys)) (hc : ¬ c = 0) : execS ss k a b vs zs = badC c := by
  unfold execS
  rw [if_pos ⟨h1, h2⟩, h, if_neg hc]
theorem exec_leak {ss : List ByteArray} {k : Int} {a b : ByteArray} {vs zs us ys : List Int} (h1 : stmtB ss k a b = true) (h2 : heapB (ss.length : Int) vs zs = true) (h : doS k (place ss a).toNat (place ss b).toNat vs zs = (0, us, ys)) (hl : leakB us ys = true) : execS ss k a b vs zs = badC 4 := by
  unfold execS
  rw [if_pos ⟨h1, h2⟩, h, if_pos rfl, if_pos hl]
theorem exec_ok {ss : List ByteArray} {k : Int} {a b : ByteArray} {vs zs us ys : List Int} (h1 : stmtB ss k a b = true) (h2 : heapB (ss.length : Int) vs zs = true) (h : doS k (place ss a).toNat (place ss b).toNat vs zs = (0, us, ys)) (hl : leakB us ys = false) : execS ss k a b vs zs = (0, canonVs us ys, canonNs us ys) := by
  unfold execS
  rw [if_pos ⟨h1, h2⟩, h, if_pos rfl, if_neg (by simp [hl])]
/-- The answer is written into a box that lies ahead of the answer's rows. -/
theorem heap_res {lo hi Q : Nat} {w W : World} {a b : Option Addr} {ca cb : Nat} {vs zs : List Int} {u v : Value} (h : HeapIn lo hi W a ca b cb (intVals vs) (intVals zs)) (hB : Below w.heap.size w W) (hQ : w.heap.size ≤ Q) (hlo : Q < lo) :
    HeapIn w.heap.size ((W.setCell ⟨Q, 0, none⟩ u).setCell ⟨Q, 1, none⟩ v).heap.size ((W.setCell ⟨Q, 0, none⟩ u).setCell ⟨Q, 1, none⟩ v) a ca b cb (intVals vs) (intVals zs) ∧ Below w.heap.size w ((W.setCell ⟨Q, 0, none⟩ u).setCell ⟨Q, 1, none⟩ v) := by
  have hbl := h.blocks
  have hs : ((W.setCell ⟨Q, 0, none⟩ u).setCell ⟨Q, 1, none⟩ v).heap.size = W.heap.size := by simp
  refine ⟨?_, (hB.setCell hQ _).setCell hQ _⟩
  rw [hs]
  exact ((h.setNot (Q := Q) fun k hk => by have := hbl k hk; omega).setNot (Q := Q) fun k hk => by have := hbl k hk; omega).mono (by omega) h.v.1 (by rw [hs]; exact Nat.le_refl _)
theorem Box2.keepL {W : World} {Q : Nat} {x y : Value} (h0 : W.cell? ⟨Q, 0, none⟩ = some x) (h1 : W.cell? ⟨Q, 1, none⟩ = some y) : ∀ i u, [x, y][i]? = some u → W.cell? ⟨Q, i, none⟩ = some u
  | 0, u, hu => by obtain rfl := Option.some.inj hu; exact h0
  | 1, u, hu => by obtain rfl := Option.some.inj hu; exact h1
  | _ + 2, u, hu => by simp at hu
theorem box_of {W : World} {Q : Nat} {x y : Value} (hf : ∀ o, W.frozen? ⟨Q, o, none⟩ = false) (hl : Q < W.heap.size) (h0 : W.cell? ⟨Q, 0, none⟩ = some x) (h1 : W.cell? ⟨Q, 1, none⟩ = some y) : BoxL W Q [x, y] :=
  ⟨Box2.keepL h0 h1, hf, hl⟩
theorem turn_cell_ {lo hi : Nat} {p : Addr} {x : Value} {q : Prop} {W W' : World} (t : Turn lo hi W W') (hp : p.block < W.heap.size) (hd : p.block < lo ∨ hi ≤ p.block) (hx : W.cell? p = some x) (k : W'.cell? p = some x → q) : q := k ((World.cell?_of_block (t.block _ hp hd)).trans hx)
theorem turn_frozen_ {lo hi g : Nat} {q : Prop} {W W' : World} (t : Turn lo hi W W') (hp : g < W.heap.size) (hd : g < lo ∨ hi ≤ g) (hx : ∀ o, W.frozen? ⟨g, o, none⟩ = false) (k : (∀ o, W'.frozen? ⟨g, o, none⟩ = false) → q) : q := k fun o => (World.frozen?_of_block (t.block _ hp hd)).trans (hx o)
theorem keep_cell {B : Nat} {p : Addr} {x : Value} {q : Prop} {W W' : World} (hb : Below B W W') (hp : p.block < B) (hx : W.cell? p = some x) (k : W'.cell? p = some x → q) : q := k ((hb.cell hp).trans hx)
theorem keep_frozen {B g : Nat} {q : Prop} {W W' : World} (hb : Below B W W') (hp : g < B) (hx : ∀ o, W.frozen? ⟨g, o, none⟩ = false) (k : (∀ o, W'.frozen? ⟨g, o, none⟩ = false) → q) : q := k fun o => (hb.frozen (p := ⟨g, o, none⟩) hp).trans (hx o)
/-- An answer of Exec: a heap that the call made, a code. -/
def ExecEnd (r : Act3) (w : World) (e : Ending) (w' : World) : Prop :=
  ∃ a ca b cb, e = .returned (.tuple #[heV a r.2.1.length ca b r.2.2.length cb, .int .i64 r.1]) ∧ HeapIn w.heap.size w'.heap.size w' a ca b cb (intVals r.2.1) (intVals r.2.2) ∧ Below w.heap.size w w'
theorem exec_bad {k : Int} {w w' : World} (h : Below w.heap.size w w') : ExecEnd (badC k) w (.returned (.tuple #[heV none 0 0 none 0 0, .int .i64 k])) w' :=
  ⟨none, 0, none, 0, rfl, heapIn_nil (Nat.le_refl _), h⟩
theorem place_in {ss : List ByteArray} {s : ByteArray} (h : 0 ≤ place ss s) : place ss s < (ss.length : Int) := by
  unfold place at *
  have key : ∀ (l : List ByteArray) (k : Nat), 0 ≤ placeFrom s k l → placeFrom s k l < ((k + l.length : Nat) : Int) := by
    intro l
    induction l with
    | nil => intro k h; simp [placeFrom] at h
    | cons x l ih =>
      intro k h
      simp only [placeFrom, List.length_cons] at *
      split at h
      · rename_i hx
        rw [if_pos hx]
        omega
      · rename_i hx
        rw [if_neg hx]
        have := ih (k + 1) h
        omega
  have := key ss 0 h
  simpa using this
/-- What a valid statement says of its names. -/
theorem stmt_names {ss : List ByteArray} {k : Int} {a b : ByteArray} (h : stmtB ss k a b = true) : (1 ≤ k ∧ k ≤ 12) ∧ (1 ≤ namesN k → 0 ≤ place ss a) ∧ (2 ≤ namesN k → 0 ≤ place ss b) := by
  simp only [stmtB, Bool.and_eq_true, decide_eq_true_eq] at h
  obtain ⟨⟨⟨_, hn⟩, ha⟩, hb⟩ := h
  refine ⟨Classical.byContradiction fun hk => by rw [namesN_none hk] at hn; omega, fun h1 => ?_, fun h2 => ?_⟩
  · rw [decide_eq_true h1] at ha
    simpa [operandB] using ha
  · rw [decide_eq_true h2] at hb
    simpa [operandB] using hb

end Go.Proofs.YtpmmjaceehlpiaaGreatDoor
