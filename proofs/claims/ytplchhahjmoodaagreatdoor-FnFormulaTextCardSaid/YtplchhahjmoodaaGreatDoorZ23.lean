/-
  Several texts of one proof in one file, in the order in which they build.
-/
import Derived.Test.YtplchhahjmoodaaGreatDoorChecked
import Derived.Test.YtplchhahjmoodaaGreatDoorZ08
import Derived.Test.YtplchhahjmoodaaGreatDoorZ06
import Derived.Test.YtplchhahjmoodaaGreatDoorZ13
import Derived.Test.YtplchhahjmoodaaGreatDoorZ22
/-
  The law writes marks into the nodes of a formula, and looks later whether they are still there. A formula that may be written: each of its rows is a block of its own, or none.
-/
namespace Go.Proofs.YtplchhahjmoodaaGreatDoor
open Go Go.RowKit Go.ChangeAt Go.ChangeShapes Go.WideShapes

mutual
def Ft.Mine (w : World) (lo hi : Nat) : Ft → Prop
  | .mk _ _ _ _ a cap pp => OwnIn lo hi w 27 5 (.slice a pp.length cap) pp.length (fmVals pp) ∧ Ft.Mines w lo hi (Value.slice a pp.length cap).ownBlock pp
def Ft.Mines (w : World) (lo hi : Nat) (r : Option Nat) : List Ft → Prop
  | [] => lo ≤ hi
  | t :: ts => ∃ m1 m2, lo ≤ m1 ∧ t.Mine w m1 m2 ∧ (∀ k, r = some k → k < m1 ∨ m2 ≤ k) ∧ Ft.Mines w m2 hi r ts
end
theorem Ft.mine_iff {w : World} {lo hi : Nat} (t : Ft) : t.Mine w lo hi ↔ OwnIn lo hi w 27 5 (.slice t.a t.args.length t.cap) t.args.length (fmVals t.args) ∧ Ft.Mines w lo hi (Value.slice t.a t.args.length t.cap).ownBlock t.args := by
  cases t
  rw [Ft.Mine]
  rfl
mutual
theorem Ft.Mine.le {w : World} : ∀ (t : Ft) {lo hi : Nat}, t.Mine w lo hi → lo ≤ hi
  | .mk _ _ _ _ a cap pp, lo, hi, h => by
    rw [Ft.Mine] at h
    exact Ft.Mines.le pp h.2
theorem Ft.Mines.le {w : World} {r : Option Nat} : ∀ (ts : List Ft) {lo hi : Nat}, Ft.Mines w lo hi r ts → lo ≤ hi
  | [], lo, hi, h => h
  | t :: ts, lo, hi, h => by
    rw [Ft.Mines] at h
    obtain ⟨m1, m2, h0, h1, _, h2⟩ := h
    have := Ft.Mine.le t h1
    have := Ft.Mines.le ts h2
    omega
end
mutual
theorem Ft.Mine.turn {w w' : World} {lo' hi' : Nat} (tw : Turn lo' hi' w w') : ∀ (t : Ft) {lo hi : Nat}, t.Mine w lo hi → (hi' ≤ lo ∨ hi ≤ lo') → t.Mine w' lo hi
  | .mk _ _ _ _ a cap pp, lo, hi, h, hd => by
    rw [Ft.Mine] at h ⊢
    exact ⟨h.1.turn tw (by omega), Ft.Mines.turn tw pp h.2 hd⟩
theorem Ft.Mines.turn {w w' : World} {lo' hi' : Nat} {r : Option Nat} (tw : Turn lo' hi' w w') : ∀ (ts : List Ft) {lo hi : Nat}, Ft.Mines w lo hi r ts → (hi' ≤ lo ∨ hi ≤ lo') → Ft.Mines w' lo hi r ts
  | [], lo, hi, h, _ => h
  | t :: ts, lo, hi, h, hd => by
    rw [Ft.Mines] at h ⊢
    obtain ⟨m1, m2, h0, h1, h2, h3⟩ := h
    have := Ft.Mine.le t h1
    have := Ft.Mines.le ts h3
    exact ⟨m1, m2, h0, Ft.Mine.turn tw t h1 (by omega), h2, Ft.Mines.turn tw ts h3 (by omega)⟩
end
/-- The parts are kept where their row's block turns. -/
theorem Ft.Mines.stored {w w' : World} {b : Nat} (tw : Turn b (b + 1) w w') : ∀ (ts : List Ft) {lo hi : Nat}, Ft.Mines w lo hi (some b) ts → Ft.Mines w' lo hi (some b) ts
  | [], lo, hi, h => h
  | t :: ts, lo, hi, h => by
    rw [Ft.Mines] at h ⊢
    obtain ⟨m1, m2, h0, h1, h2, h3⟩ := h
    have := h2 b rfl
    exact ⟨m1, m2, h0, Ft.Mine.turn tw t h1 (by omega), h2, Ft.Mines.stored tw ts h3⟩
theorem Ft.Mines.split {w : World} {r : Option Nat} {x : Ft} {us : List Ft} : ∀ (ts : List Ft) {lo hi : Nat}, Ft.Mines w lo hi r (ts ++ x :: us) → ∃ m0 m1 m2, Ft.Mines w lo m0 r ts ∧ m0 ≤ m1 ∧ x.Mine w m1 m2 ∧ (∀ k, r = some k → k < m1 ∨ m2 ≤ k) ∧ Ft.Mines w m2 hi r us
  | [], lo, hi, h => by
    rw [List.nil_append, Ft.Mines] at h
    obtain ⟨m1, m2, h0, h1, h2, h3⟩ := h
    exact ⟨lo, m1, m2, Nat.le_refl _, h0, h1, h2, h3⟩
  | t :: ts, lo, hi, h => by
    rw [List.cons_append, Ft.Mines] at h
    obtain ⟨n1, n2, g0, g1, g2, g3⟩ := h
    obtain ⟨m0, m1, m2, h1, h2, h3, h4, h5⟩ := Ft.Mines.split ts g3
    exact ⟨m0, m1, m2, by rw [Ft.Mines]; exact ⟨n1, n2, g0, g1, g2, h1⟩, h2, h3, h4, h5⟩
theorem Ft.Mines.join {w : World} {r : Option Nat} {x : Ft} {us : List Ft} {m0 m1 m2 hi : Nat} (h0 : m0 ≤ m1) (h1 : x.Mine w m1 m2) (h2 : ∀ k, r = some k → k < m1 ∨ m2 ≤ k) (h3 : Ft.Mines w m2 hi r us) : ∀ (ts : List Ft) {lo : Nat}, Ft.Mines w lo m0 r ts → Ft.Mines w lo hi r (ts ++ x :: us)
  | [], lo, h => by
    rw [Ft.Mines] at h
    rw [List.nil_append, Ft.Mines]
    exact ⟨m1, m2, by omega, h1, h2, h3⟩
  | t :: ts, lo, h => by
    rw [Ft.Mines] at h
    obtain ⟨n1, n2, g0, g1, g2, g3⟩ := h
    rw [List.cons_append, Ft.Mines]
    exact ⟨n1, n2, g0, g1, g2, Ft.Mines.join h0 h1 h2 h3 ts g3⟩
theorem OwnIn.all {lo hi : Nat} {W : World} {e size n : Nat} {v : Value} {xs : List Value} (h : W.ownsRow lo e size v n xs) (hh : ∀ k, v.ownBlock = some k → k < hi) (hs : hi ≤ W.heap.size) : OwnIn lo hi W e size v n xs := ⟨hs, h, hh⟩
theorem OwnIn.keep {lo hi lo' hi' : Nat} {W W' : World} {e size n : Nat} {v : Value} {xs : List Value} (h : OwnIn lo hi W e size v n xs) (t : Turn lo' hi' W W') (hd : ∀ k, v.ownBlock = some k → k < lo' ∨ hi' ≤ k) : OwnIn lo hi W' e size v n xs :=
  ⟨Nat.le_trans h.1 t.size, own_turn h.2.1 t hd, h.2.2⟩
mutual
theorem Ft.Own.mine {w : World} : ∀ (t : Ft) {lo hi : Nat}, t.Own w lo hi → hi ≤ w.heap.size → t.Mine w lo hi
  | .mk _ _ _ _ a cap pp, lo, hi, h, hs => by
    rw [Ft.Own] at h
    obtain ⟨b, rfl, h1, h2, h3⟩ := h
    have := Ft.Owns.le pp h3
    rw [Ft.Mine]
    refine ⟨⟨hs, own_base h2 h1, fun k hk => by cases hk; show b < hi; omega⟩, ?_⟩
    exact Ft.Owns.mines pp h3 hs (by show b < b + 1; omega) (by omega)
theorem Ft.Owns.mines {w : World} {b : Nat} : ∀ (ts : List Ft) {lo lo' hi : Nat}, Ft.Owns w lo hi ts → hi ≤ w.heap.size → b < lo → lo' ≤ lo → Ft.Mines w lo' hi (some b) ts
  | [], lo, lo', hi, h, _, _, hl => by
    rw [Ft.Owns] at h
    rw [Ft.Mines]
    omega
  | t :: ts, lo, lo', hi, h, hs, hb, hl => by
    rw [Ft.Owns] at h
    obtain ⟨m, h1, h2⟩ := h
    have := Ft.Own.le t h1
    have := Ft.Owns.le ts h2
    rw [Ft.Mines]
    exact ⟨lo, m, hl, Ft.Own.mine t h1 (by omega), (fun k hk => by cases hk; omega), Ft.Owns.mines ts h2 hs (by omega) (Nat.le_refl _)⟩
end
mutual
theorem Ft.Mine.in_ {w : World} {B : Nat} : ∀ (t : Ft) {lo hi : Nat}, t.Mine w lo hi → hi ≤ B → t.In w B
  | .mk _ _ _ _ a cap pp, lo, hi, h, hB => by
    rw [Ft.Mine] at h
    rw [Ft.In]
    exact ⟨Row.owned5 h.1.2.1 (fun k hk => Nat.lt_of_lt_of_le (h.1.2.2 k hk) hB), Ft.Mines.in_ pp h.2 hB⟩
theorem Ft.Mines.in_ {w : World} {B : Nat} {r : Option Nat} : ∀ (ts : List Ft) {lo hi : Nat}, Ft.Mines w lo hi r ts → hi ≤ B → Ft.Ins w B ts
  | [], lo, hi, h, hB => trivial
  | t :: ts, lo, hi, h, hB => by
    rw [Ft.Mines] at h
    rw [Ft.Ins]
    obtain ⟨m1, m2, h0, h1, h2, h3⟩ := h
    have := Ft.Mines.le ts h3
    exact ⟨Ft.Mine.in_ t h1 (by omega), Ft.Mines.in_ ts h3 hB⟩
end

/- What marks from k on make of formulas. -/
mutual
def Ft.markd (k : Nat) : Ft → Ft
  | .mk _ _ _ _ a cap pp => .mk (k : Int) ((k : Int) + 1) ((k : Int) + 1 + 1) ((k : Int) + 1 + 1 + 1) a cap (Ft.markds (k + 4) pp)
def Ft.markds (k : Nat) : List Ft → List Ft
  | [] => []
  | t :: ts => t.markd k :: Ft.markds (k + 4 * t.er.size) ts
end
theorem Ft.markd_eq (k : Nat) (t : Ft) : t.markd k = .mk (k : Int) ((k : Int) + 1) ((k : Int) + 1 + 1) ((k : Int) + 1 + 1 + 1) t.a t.cap (Ft.markds (k + 4) t.args) := by
  cases t
  rw [Ft.markd]
  rfl
theorem Ft.markds_length : ∀ (ts : List Ft) (k : Nat), (Ft.markds k ts).length = ts.length
  | [], _ => rfl
  | t :: ts, k => by rw [Ft.markds, List.length_cons, Ft.markds_length ts, List.length_cons]
theorem Ft.markds_append : ∀ (ts us : List Ft) (k : Nat), Ft.markds k (ts ++ us) = Ft.markds k ts ++ Ft.markds (k + 4 * Fm.sizes (ts.map Ft.er)) us
  | [], us, k => by simp [Ft.markds, Fm.sizes]
  | t :: ts, us, k => by
    rw [List.cons_append, Ft.markds, Ft.markds, Ft.markds_append ts us, List.map_cons, Fm.sizes, List.cons_append]
    congr 3
    omega
theorem Ft.markds_next (ts : List Ft) (k j : Nat) (h : j < ts.length) : Ft.markds k (ts.take (j + 1)) = Ft.markds k (ts.take j) ++ [(ts[j]).markd (k + 4 * Fm.sizes ((ts.take j).map Ft.er))] := by
  rw [take_next ts j h, Ft.markds_append]
  rfl
theorem Ft.markds_at : ∀ (ts : List Ft) (k j : Nat) (h : j < ts.length), (Ft.markds k ts)[j]? = some ((ts[j]).markd (k + 4 * Fm.sizes ((ts.take j).map Ft.er)))
  | t :: ts, k, 0, _ => by simp [Ft.markds, Fm.sizes]
  | t :: ts, k, j + 1, h => by
    have := Ft.markds_at ts (k + 4 * t.er.size) j (by simpa using h)
    rw [Ft.markds, List.getElem?_cons_succ, this]
    simp only [List.getElem_cons_succ, List.take_succ_cons, List.map_cons, Fm.sizes]
    congr 2
    omega
/-- The node's own marks are made, those of its parts not yet. -/
def Ft.head (k : Nat) (t : Ft) : Ft := .mk (k : Int) ((k : Int) + 1) ((k : Int) + 1 + 1) ((k : Int) + 1 + 1 + 1) t.a t.cap t.args
theorem fmVals_set4 (ts us : List Ft) (x : Ft) (k : Nat) : ((((fmVals (ts ++ x :: us)).set (ts.length * 5) (.int .i64 (k : Int))).set (ts.length * 5 + 1) (.int .i64 ((k : Int) + 1))).set (ts.length * 5 + 2) (.int .i64 ((k : Int) + 1 + 1))).set (ts.length * 5 + 3) (.int .i64 ((k : Int) + 1 + 1 + 1)) = fmVals (ts ++ x.head k :: us) := by
  rw [fmVals_append, fmVals_cons, fmVals_append, fmVals_cons, ← fmVals_length ts]
  generalize fmVals ts = A
  generalize fmVals us = B
  apply List.ext_getElem?
  intro j
  simp only [List.getElem?_set, List.length_set]
  rcases Nat.lt_or_ge j A.length with hj | hj
  · rw [if_neg (by omega), if_neg (by omega), if_neg (by omega), if_neg (by omega), List.getElem?_append_left hj, List.getElem?_append_left hj]
  · obtain ⟨i, rfl⟩ : ∃ i, j = A.length + i := ⟨j - A.length, by omega⟩
    simp only [List.getElem?_append_right (show A.length ≤ A.length + i by omega), Nat.add_sub_cancel_left]
    match i with
    | 0 => simp [Ft.cells, Ft.head, Ft.kd]
    | 1 => simp [Ft.cells, Ft.head, Ft.k]
    | 2 => simp [Ft.cells, Ft.head, Ft.u]
    | 3 => simp [Ft.cells, Ft.head, Ft.v]
    | 4 =>
      rw [if_neg (by omega), if_neg (by omega), if_neg (by omega), if_neg (by omega)]
      cases x
      rfl
    | i + 5 =>
      rw [if_neg (by omega), if_neg (by omega), if_neg (by omega), if_neg (by omega)]
      simp [Ft.cells]
theorem fmVals_parts (ts us : List Ft) (x y : Ft) (h : x.cells = y.cells) : fmVals (ts ++ x :: us) = fmVals (ts ++ y :: us) := by
  rw [fmVals_append, fmVals_cons, fmVals_append, fmVals_cons, h]
theorem Ft.head_cells (k : Nat) (t : Ft) : (t.head k).cells = (t.markd k).cells := by
  rw [Ft.markd_eq]
  simp [Ft.head, Ft.cells, Ft.kd, Ft.k, Ft.u, Ft.v, Ft.a, Ft.cap, Ft.args, Ft.markds_length]

/-- All nodes behind a row are marked; only its blocks have turned. -/
def MarkedTrees (a : Option Addr) (cap : Nat) (ts : List Ft) (lo hi k : Nat) (w : World) (e : Ending) (w' : World) : Prop :=
  e = .returned (.int .i64 ((k + 4 * Fm.sizes (ts.map Ft.er) : Nat) : Int)) ∧ OwnIn lo hi w' 27 5 (.slice a ts.length cap) ts.length (fmVals (Ft.markds k ts)) ∧ Ft.Mines w' lo hi (Value.slice a ts.length cap).ownBlock (Ft.markds k ts) ∧ Turn lo hi w w'

/-- The first node's own fields are a copy: they are not marked. -/
def Ft.markRest (k : Nat) (x : Ft) : Ft := .mk x.kd x.k x.u x.v x.a x.cap (Ft.markds k x.args)
def MarkedTree (x : Ft) (lo hi k : Nat) (w : World) (e : Ending) (w' : World) : Prop :=
  e = .returned (.int .i64 ((k + 4 * Fm.sizes (x.args.map Ft.er) : Nat) : Int)) ∧ (x.markRest k).Mine w' lo hi ∧ Turn lo hi w w'
/-- All marks are there: the number behind the last. -/
def HeldTrees (n k : Nat) (w : World) (e : Ending) (w' : World) : Prop := e = .returned (.int .i64 ((k + 4 * n : Nat) : Int)) ∧ Below w.heap.size w w'

end Go.Proofs.YtplchhahjmoodaaGreatDoor
/-
  Formulas whose rows are blocks of their own, wherever these lie to each other: the program may walk over them, and rows grow.
-/
namespace Go.Proofs.YtplchhahjmoodaaGreatDoor
open Go Go.RowKit Go.ChangeAt Go.ChangeShapes Go.WideShapes

theorem nil_of_none {w : World} {lo hi : Nat} {a : Option Addr} {cap n : Nat} {xs : List Value} (h : OwnIn lo hi w 27 5 (.slice a n cap) n xs) : n = 0 ∨ ∃ b, a = some ⟨b, 0, none⟩ ∧ lo ≤ b ∧ b < hi := by
  rcases h.2.1.2 with ⟨_, h0⟩ | ⟨g, c, cur, hv, _⟩
  · exact .inl h0
  · injection hv with hv _ _
    subst hv
    exact .inr ⟨g, rfl, (h.2.1.lt g rfl).1, h.2.2 g rfl⟩
mutual
theorem Ft.Mine.lie {w : World} : ∀ (t : Ft) {lo hi : Nat}, t.Mine w lo hi → Lie t.places lo hi
  | .mk _ _ _ _ a cap pp, lo, hi, h => by
    rw [Ft.Mine] at h
    rw [Ft.places]
    obtain ⟨h1, h2⟩ := h
    have hk := Ft.Mines.lie pp h2
    rcases nil_of_none h1 with h0 | ⟨b, rfl, hb1, hb2⟩
    · have : pp = [] := List.eq_nil_of_length_eq_zero h0
      subst this
      exact Lie.none_
    · have hr : Lie ((List.range pp.length).map (kidAt (some ⟨b, 0, none⟩))) lo hi := Lie.row hb1 hb2
      refine ⟨List.nodup_append.2 ⟨hr.1, hk.1.1, fun p hp q hq e => ?_⟩, fun p hp => ?_⟩
      · obtain ⟨i, _, rfl⟩ := List.mem_map.1 hp
        have := hk.2 b rfl q hq
        rw [← e] at this
        exact this rfl
      · rcases List.mem_append.1 hp with hp | hp
        · exact hr.2 p hp
        · exact hk.1.2 p hp
theorem Ft.Mines.lie {w : World} {r : Option Nat} : ∀ (ts : List Ft) {lo hi : Nat}, Ft.Mines w lo hi r ts → Lie (Ft.placess ts) lo hi ∧ ∀ k, r = some k → ∀ p ∈ Ft.placess ts, p.block ≠ k
  | [], lo, hi, h => ⟨Lie.none_, fun k _ p hp => by cases hp⟩
  | t :: ts, lo, hi, h => by
    rw [Ft.Mines] at h
    rw [Ft.placess]
    obtain ⟨m1, m2, h0, h1, h2, h3⟩ := h
    have hl1 := Ft.Mine.lie t h1
    have hl2 := Ft.Mines.lie ts h3
    have := Ft.Mine.le t h1
    have := Ft.Mines.le ts h3
    refine ⟨Lie.append (hl1.grow h0 (Nat.le_refl _)) hl2.1 (Nat.le_refl _) (by omega) (by omega), fun k hk p hp => ?_⟩
    rcases List.mem_append.1 hp with hp | hp
    · have := hl1.2 p hp
      have := h2 k hk
      omega
    · exact hl2.2 k hk p hp
end
mutual
theorem Ft.Mine.plain {w : World} : ∀ (t : Ft) {lo hi : Nat}, t.Mine w lo hi → ∀ p ∈ t.places, Plain w p.block
  | .mk _ _ _ _ a cap pp, lo, hi, h, p, hp => by
    rw [Ft.Mine] at h
    rw [Ft.places] at hp
    obtain ⟨h1, h2⟩ := h
    rcases List.mem_append.1 hp with hp | hp
    · obtain ⟨i, hi', rfl⟩ := List.mem_map.1 hp
      rcases nil_of_none h1 with h0 | ⟨b, rfl, _, _⟩
      · rw [h0] at hi'
        simp at hi'
      · exact Plain.owned h1.2.1
    · exact Ft.Mines.plain pp h2 p hp
theorem Ft.Mines.plain {w : World} {r : Option Nat} : ∀ (ts : List Ft) {lo hi : Nat}, Ft.Mines w lo hi r ts → ∀ p ∈ Ft.placess ts, Plain w p.block
  | [], _, _, _, p, hp => by cases hp
  | t :: ts, lo, hi, h, p, hp => by
    rw [Ft.Mines] at h
    rw [Ft.placess] at hp
    obtain ⟨m1, m2, _, h1, _, h3⟩ := h
    rcases List.mem_append.1 hp with hp | hp
    · exact Ft.Mine.plain t h1 p hp
    · exact Ft.Mines.plain ts h3 p hp
end
theorem Ft.Mine.solid {w : World} {t : Ft} {lo hi : Nat} (h : t.Mine w lo hi) (hh : hi ≤ w.heap.size) (hs : t.er.size ≤ 1099511627776) : Solid w t :=
  ⟨Ft.Mine.in_ t h hh, (Ft.Mine.lie t h).1, Ft.Mine.plain t h, hs⟩
theorem Ft.Mines.rebind {w : World} {r r' : Option Nat} : ∀ (ts : List Ft) {lo hi : Nat}, Ft.Mines w lo hi r ts → (∀ k, r' = some k → r = some k ∨ hi ≤ k ∨ k < lo) → Ft.Mines w lo hi r' ts
  | [], lo, hi, h, _ => h
  | t :: ts, lo, hi, h, hr => by
    rw [Ft.Mines] at h ⊢
    obtain ⟨m1, m2, h0, h1, h2, h3⟩ := h
    have hl1 := Ft.Mine.le t h1
    have hl2 := Ft.Mines.le ts h3
    refine ⟨m1, m2, h0, h1, fun k hk => ?_, Ft.Mines.rebind ts h3 fun k hk => ?_⟩
    · rcases hr k hk with h | h | h
      · exact h2 k h
      · omega
      · omega
    · rcases hr k hk with h | h | h
      · exact .inl h
      · exact .inr (.inl h)
      · exact .inr (.inr (by omega))
theorem Ft.Mines.snoc {w : World} {r : Option Nat} {t : Ft} {m m1 m2 hi : Nat} (h0 : m ≤ m1) (h1 : t.Mine w m1 m2) (h2 : ∀ k, r = some k → k < m1 ∨ m2 ≤ k) (h3 : m2 ≤ hi) (ts : List Ft) {lo : Nat} (h : Ft.Mines w lo m r ts) : Ft.Mines w lo hi r (ts ++ [t]) :=
  Ft.Mines.join h0 h1 h2 (by rw [Ft.Mines]; exact h3) ts h
mutual
theorem Ft.Mine.grow {w : World} : ∀ (t : Ft) {lo hi lo' hi' : Nat}, t.Mine w lo hi → lo' ≤ lo → hi ≤ hi' → hi' ≤ w.heap.size → t.Mine w lo' hi'
  | .mk _ _ _ _ a cap pp, lo, hi, lo', hi', h, h1, h2, h3 => by
    rw [Ft.Mine] at h ⊢
    exact ⟨h.1.mono h1 h2 h3, Ft.Mines.grow pp h.2 h1 h2⟩
theorem Ft.Mines.grow {w : World} {r : Option Nat} : ∀ (ts : List Ft) {lo hi lo' hi' : Nat}, Ft.Mines w lo hi r ts → lo' ≤ lo → hi ≤ hi' → Ft.Mines w lo' hi' r ts
  | [], lo, hi, lo', hi', h, h1, h2 => by
    rw [Ft.Mines] at h ⊢
    omega
  | t :: ts, lo, hi, lo', hi', h, h1, h2 => by
    rw [Ft.Mines] at h ⊢
    obtain ⟨m1, m2, g0, g1, g2, g3⟩ := h
    exact ⟨m1, m2, by omega, g1, g2, Ft.Mines.grow ts g3 (Nat.le_refl _) h2⟩
end
theorem Ft.Mine.below {w w' : World} {t : Ft} {lo hi : Nat} (h : t.Mine w lo hi) (hb : Below w.heap.size w w') : t.Mine w' lo hi := Ft.Mine.turn (Turn.of_below (lo := 0) (hi := 0) hb) t h (.inl (Nat.zero_le _))
theorem Ft.Mines.below {w w' : World} {r : Option Nat} {ts : List Ft} {lo hi : Nat} (h : Ft.Mines w lo hi r ts) (hb : Below w.heap.size w w') : Ft.Mines w' lo hi r ts := Ft.Mines.turn (Turn.of_below (lo := 0) (hi := 0) hb) ts h (.inl (Nat.zero_le _))
/-- A formula without parts, that holds nothing. -/
theorem Ft.mine_leaf {w : World} {lo hi : Nat} (kd k u v : Int) (h : lo ≤ hi) (hs : hi ≤ w.heap.size) : (Ft.mk kd k u v none 0 []).Mine w lo hi := by
  rw [Ft.Mine, Ft.Mines]
  exact ⟨⟨hs, World.ownsRow_nil _ _ _ _, fun k hk => by cases hk⟩, h⟩
end Go.Proofs.YtplchhahjmoodaaGreatDoor
