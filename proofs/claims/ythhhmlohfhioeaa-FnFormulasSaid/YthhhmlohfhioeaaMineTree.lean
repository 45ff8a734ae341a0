/-
  Formulas whose rows are blocks of their own, wherever these lie to each other: the program may walk over them, and rows grow.
-/
import Derived.Test.YthhhmlohfhioeaaMarkTree
import Derived.Test.YthhhmlohfhioeaaWidths
namespace Go.Proofs.Ythhhmlohfhioeaa
open Go Go.RowKit Go.ChangeAt Go.ChangeShapes Go.WideShapes

theorem nil_of_none {w : World} {lo hi : Nat} {a : Option Addr} {cap n : Nat} {xs : List Value} (h : OwnIn lo hi w 26 5 (.slice a n cap) n xs) : n = 0 ∨ ∃ b, a = some ⟨b, 0, none⟩ ∧ lo ≤ b ∧ b < hi := by
  rcases h.2.1.2 with ⟨_, h0⟩ | ⟨g, c, cur, hv, _⟩
  · exact .inl h0
  · injection hv with hv _ _
    subst hv
    exact .inr ⟨g, rfl, (h.2.1.lt g rfl).1, h.2.2 g rfl⟩
mutual
theorem Ft.Mine.lie {w : World} : ∀ (t : Ft) {lo hi : Nat}, t.Mine w lo hi → Lie t.places lo hi
  | .mk _ _ _ _ a cap pp, lo, hi, h => by
    rw [Ft.Mine] at h
    rw [Ft.places]
    obtain ⟨h1, h2⟩ := h
    have hk := Ft.Mines.lie pp h2
    rcases nil_of_none h1 with h0 | ⟨b, rfl, hb1, hb2⟩
    · have : pp = [] := List.eq_nil_of_length_eq_zero h0
      subst this
      exact Lie.none_
    · have hr : Lie ((List.range pp.length).map (kidAt (some ⟨b, 0, none⟩))) lo hi := Lie.row hb1 hb2
      refine ⟨List.nodup_append.2 ⟨hr.1, hk.1.1, fun p hp q hq e => ?_⟩, fun p hp => ?_⟩
      · obtain ⟨i, _, rfl⟩ := List.mem_map.1 hp
        have := hk.2 b rfl q hq
        rw [← e] at this
        exact this rfl
      · rcases List.mem_append.1 hp with hp | hp
        · exact hr.2 p hp
        · exact hk.1.2 p hp
theorem Ft.Mines.lie {w : World} {r : Option Nat} : ∀ (ts : List Ft) {lo hi : Nat}, Ft.Mines w lo hi r ts → Lie (Ft.placess ts) lo hi ∧ ∀ k, r = some k → ∀ p ∈ Ft.placess ts, p.block ≠ k
  | [], lo, hi, h => ⟨Lie.none_, fun k _ p hp => by cases hp⟩
  | t :: ts, lo, hi, h => by
    rw [Ft.Mines] at h
    rw [Ft.placess]
    obtain ⟨m1, m2, h0, h1, h2, h3⟩ := h
    have hl1 := Ft.Mine.lie t h1
    have hl2 := Ft.Mines.lie ts h3
    have := Ft.Mine.le t h1
    have := Ft.Mines.le ts h3
    refine ⟨Lie.append (hl1.grow h0 (Nat.le_refl _)) hl2.1 (Nat.le_refl _) (by omega) (by omega), fun k hk p hp => ?_⟩
    rcases List.mem_append.1 hp with hp | hp
    · have := hl1.2 p hp
      have := h2 k hk
      omega
    · exact hl2.2 k hk p hp
end
mutual
theorem Ft.Mine.plain {w : World} : ∀ (t : Ft) {lo hi : Nat}, t.Mine w lo hi → ∀ p ∈ t.places, Plain w p.block
  | .mk _ _ _ _ a cap pp, lo, hi, h, p, hp => by
    rw [Ft.Mine] at h
    rw [Ft.places] at hp
    obtain ⟨h1, h2⟩ := h
    rcases List.mem_append.1 hp with hp | hp
    · obtain ⟨i, hi', rfl⟩ := List.mem_map.1 hp
      rcases nil_of_none h1 with h0 | ⟨b, rfl, _, _⟩
      · rw [h0] at hi'
        simp at hi'
      · exact Plain.owned h1.2.1
    · exact Ft.Mines.plain pp h2 p hp
theorem Ft.Mines.plain {w : World} {r : Option Nat} : ∀ (ts : List Ft) {lo hi : Nat}, Ft.Mines w lo hi r ts → ∀ p ∈ Ft.placess ts, Plain w p.block
  | [], _, _, _, p, hp => by cases hp
  | t :: ts, lo, hi, h, p, hp => by
    rw [Ft.Mines] at h
    rw [Ft.placess] at hp
    obtain ⟨m1, m2, _, h1, _, h3⟩ := h
    rcases List.mem_append.1 hp with hp | hp
    · exact Ft.Mine.plain t h1 p hp
    · exact Ft.Mines.plain ts h3 p hp
end
theorem Ft.Mine.solid {w : World} {t : Ft} {lo hi : Nat} (h : t.Mine w lo hi) (hh : hi ≤ w.heap.size) (hs : t.er.size ≤ 1099511627776) : Solid w t :=
  ⟨Ft.Mine.in_ t h hh, (Ft.Mine.lie t h).1, Ft.Mine.plain t h, hs⟩
theorem Ft.Mines.rebind {w : World} {r r' : Option Nat} : ∀ (ts : List Ft) {lo hi : Nat}, Ft.Mines w lo hi r ts → (∀ k, r' = some k → r = some k ∨ hi ≤ k ∨ k < lo) → Ft.Mines w lo hi r' ts
  | [], lo, hi, h, _ => h
  | t :: ts, lo, hi, h, hr => by
    rw [Ft.Mines] at h ⊢
    obtain ⟨m1, m2, h0, h1, h2, h3⟩ := h
    have hl1 := Ft.Mine.le t h1
    have hl2 := Ft.Mines.le ts h3
    refine ⟨m1, m2, h0, h1, fun k hk => ?_, Ft.Mines.rebind ts h3 fun k hk => ?_⟩
    · rcases hr k hk with h | h | h
      · exact h2 k h
      · omega
      · omega
    · rcases hr k hk with h | h | h
      · exact .inl h
      · exact .inr (.inl h)
      · exact .inr (.inr (by omega))
theorem Ft.Mines.snoc {w : World} {r : Option Nat} {t : Ft} {m m1 m2 hi : Nat} (h0 : m ≤ m1) (h1 : t.Mine w m1 m2) (h2 : ∀ k, r = some k → k < m1 ∨ m2 ≤ k) (h3 : m2 ≤ hi) (ts : List Ft) {lo : Nat} (h : Ft.Mines w lo m r ts) : Ft.Mines w lo hi r (ts ++ [t]) :=
  Ft.Mines.join h0 h1 h2 (by rw [Ft.Mines]; exact h3) ts h
mutual
theorem Ft.Mine.grow {w : World} : ∀ (t : Ft) {lo hi lo' hi' : Nat}, t.Mine w lo hi → lo' ≤ lo → hi ≤ hi' → hi' ≤ w.heap.size → t.Mine w lo' hi'
  | .mk _ _ _ _ a cap pp, lo, hi, lo', hi', h, h1, h2, h3 => by
    rw [Ft.Mine] at h ⊢
    exact ⟨h.1.mono h1 h2 h3, Ft.Mines.grow pp h.2 h1 h2⟩
theorem Ft.Mines.grow {w : World} {r : Option Nat} : ∀ (ts : List Ft) {lo hi lo' hi' : Nat}, Ft.Mines w lo hi r ts → lo' ≤ lo → hi ≤ hi' → Ft.Mines w lo' hi' r ts
  | [], lo, hi, lo', hi', h, h1, h2 => by
    rw [Ft.Mines] at h ⊢
    omega
  | t :: ts, lo, hi, lo', hi', h, h1, h2 => by
    rw [Ft.Mines] at h ⊢
    obtain ⟨m1, m2, g0, g1, g2, g3⟩ := h
    exact ⟨m1, m2, by omega, g1, g2, Ft.Mines.grow ts g3 (Nat.le_refl _) h2⟩
end
theorem Ft.Mine.below {w w' : World} {t : Ft} {lo hi : Nat} (h : t.Mine w lo hi) (hb : Below w.heap.size w w') : t.Mine w' lo hi := Ft.Mine.turn (Turn.of_below (lo := 0) (hi := 0) hb) t h (.inl (Nat.zero_le _))
theorem Ft.Mines.below {w w' : World} {r : Option Nat} {ts : List Ft} {lo hi : Nat} (h : Ft.Mines w lo hi r ts) (hb : Below w.heap.size w w') : Ft.Mines w' lo hi r ts := Ft.Mines.turn (Turn.of_below (lo := 0) (hi := 0) hb) ts h (.inl (Nat.zero_le _))
/-- A formula without parts, that holds nothing. -/
theorem Ft.mine_leaf {w : World} {lo hi : Nat} (kd k u v : Int) (h : lo ≤ hi) (hs : hi ≤ w.heap.size) : (Ft.mk kd k u v none 0 []).Mine w lo hi := by
  rw [Ft.Mine, Ft.Mines]
  exact ⟨⟨hs, World.ownsRow_nil _ _ _ _, fun k hk => by cases hk⟩, h⟩
end Go.Proofs.Ythhhmlohfhioeaa
