/-
  A formula that a call made: all its rows are new, each in a block of its own, those of the parts behind that of the whole.
-/
import Derived.Test.YtplchhahjmoodaaDoorChecked
import Derived.Test.YtplchhahjmoodaaDoorZ08
import Derived.Test.YtplchhahjmoodaaDoorZ06
namespace Go.Proofs.YtplchhahjmoodaaDoor
open Go Go.RowKit Go.ChangeAt Go.ChangeShapes Go.WideShapes

mutual
def Ft.Own (w : World) (lo hi : Nat) : Ft → Prop
  | .mk _ _ _ _ a cap pp => ∃ b, a = some ⟨b, 0, none⟩ ∧ lo ≤ b ∧ w.ownsRow b 26 5 (.slice a pp.length cap) pp.length (fmVals pp) ∧ Ft.Owns w (b + 1) hi pp
def Ft.Owns (w : World) (lo hi : Nat) : List Ft → Prop
  | [] => lo ≤ hi
  | t :: ts => ∃ m, t.Own w lo m ∧ Ft.Owns w m hi ts
end
theorem Ft.own_iff {w : World} {lo hi : Nat} (t : Ft) : t.Own w lo hi ↔ ∃ b, t.a = some ⟨b, 0, none⟩ ∧ lo ≤ b ∧ w.ownsRow b 26 5 (.slice t.a t.args.length t.cap) t.args.length (fmVals t.args) ∧ Ft.Owns w (b + 1) hi t.args := by
  cases t
  rw [Ft.Own]
  rfl
mutual
theorem Ft.Own.le {w : World} : ∀ (t : Ft) {lo hi : Nat}, t.Own w lo hi → lo < hi
  | .mk _ _ _ _ a cap pp, lo, hi, h => by
    rw [Ft.Own] at h
    obtain ⟨b, _, h1, _, h2⟩ := h
    have := Ft.Owns.le pp h2
    omega
theorem Ft.Owns.le {w : World} : ∀ (ts : List Ft) {lo hi : Nat}, Ft.Owns w lo hi ts → lo ≤ hi
  | [], lo, hi, h => h
  | t :: ts, lo, hi, h => by
    rw [Ft.Owns] at h
    obtain ⟨m, h1, h2⟩ := h
    have := Ft.Own.le t h1
    have := Ft.Owns.le ts h2
    omega
end
theorem own_turn {w w' : World} {lo lo' hi' e size n : Nat} {v : Value} {xs : List Value} (h : w.ownsRow lo e size v n xs) (t : Turn lo' hi' w w') (hd : ∀ k, v.ownBlock = some k → k < lo' ∨ hi' ≤ k) : w'.ownsRow lo e size v n xs := by
  refine ⟨h.1, h.2.imp id ?_⟩
  rintro ⟨g, cap, cur, rfl, hb, hgc, r⟩
  exact ⟨g, cap, cur, rfl, hb, (t.block g (h.lt g rfl).2 (hd g rfl)).trans hgc, r⟩
mutual
theorem Ft.Own.turn {w w' : World} {lo' hi' : Nat} (tw : Turn lo' hi' w w') : ∀ (t : Ft) {lo hi : Nat}, t.Own w lo hi → (hi' ≤ lo ∨ hi ≤ lo') → t.Own w' lo hi
  | .mk _ _ _ _ a cap pp, lo, hi, h, hd => by
    rw [Ft.Own] at h ⊢
    obtain ⟨b, rfl, h1, h2, h3⟩ := h
    have := Ft.Owns.le pp h3
    exact ⟨b, rfl, h1, own_turn h2 tw (fun k hk => by cases hk; show b < lo' ∨ hi' ≤ b; omega), Ft.Owns.turn tw pp h3 (by omega)⟩
theorem Ft.Owns.turn {w w' : World} {lo' hi' : Nat} (tw : Turn lo' hi' w w') : ∀ (ts : List Ft) {lo hi : Nat}, Ft.Owns w lo hi ts → (hi' ≤ lo ∨ hi ≤ lo') → Ft.Owns w' lo hi ts
  | [], lo, hi, h, _ => h
  | t :: ts, lo, hi, h, hd => by
    rw [Ft.Owns] at h ⊢
    obtain ⟨m, h1, h2⟩ := h
    have := Ft.Own.le t h1
    have := Ft.Owns.le ts h2
    exact ⟨m, Ft.Own.turn tw t h1 (by omega), Ft.Owns.turn tw ts h2 (by omega)⟩
end
mutual
theorem Ft.Own.grow {w : World} : ∀ (t : Ft) {lo hi lo' hi' : Nat}, t.Own w lo hi → lo' ≤ lo → hi ≤ hi' → t.Own w lo' hi'
  | .mk _ _ _ _ a cap pp, lo, hi, lo', hi', h, h1, h2 => by
    rw [Ft.Own] at h ⊢
    obtain ⟨b, e, g1, g2, g3⟩ := h
    exact ⟨b, e, by omega, g2, Ft.Owns.grow pp g3 (Nat.le_refl _) h2⟩
theorem Ft.Owns.grow {w : World} : ∀ (ts : List Ft) {lo hi lo' hi' : Nat}, Ft.Owns w lo hi ts → lo' ≤ lo → hi ≤ hi' → Ft.Owns w lo' hi' ts
  | [], lo, hi, lo', hi', h, h1, h2 => by
    rw [Ft.Owns] at h ⊢
    omega
  | t :: ts, lo, hi, lo', hi', h, h1, h2 => by
    rw [Ft.Owns] at h ⊢
    obtain ⟨m, g1, g2⟩ := h
    exact ⟨m, Ft.Own.grow t g1 h1 (Nat.le_refl _), Ft.Owns.grow ts g2 (Nat.le_refl _) h2⟩
end
theorem Ft.Owns.snoc {w : World} {t : Ft} {m hi : Nat} : ∀ (ts : List Ft) {lo : Nat}, Ft.Owns w lo m ts → t.Own w m hi → Ft.Owns w lo hi (ts ++ [t])
  | [], lo, h, g => by
    rw [Ft.Owns] at h
    rw [List.nil_append, Ft.Owns]
    exact ⟨hi, Ft.Own.grow t g h (Nat.le_refl _), Nat.le_refl _⟩
  | x :: ts, lo, h, g => by
    rw [Ft.Owns] at h
    obtain ⟨m', h1, h2⟩ := h
    rw [List.cons_append, Ft.Owns]
    exact ⟨m', h1, Ft.Owns.snoc ts h2 g⟩
theorem Row.owned5 {w : World} {base : Nat} {e : TypeId} {n : Nat} {a : Option Addr} {c : Nat} {ts : List Ft} {B : Nat} (h : w.ownsRow base e 5 (.slice a n c) n (fmVals ts)) (hB : ∀ k, (Value.slice a n c).ownBlock = some k → k < B) : Row w B a (fmVals ts) := by
  intro k x hx
  rcases h.2 with ⟨hv, hn⟩ | ⟨g, cap, cur, hv, _, hg, _⟩
  · have hl := h.1
    rw [hn] at hl
    have : fmVals ts = [] := List.eq_nil_of_length_eq_zero (by simpa using hl)
    rw [this] at hx
    simp at hx
  · injection hv with ha _ _
    subst ha
    refine ⟨g, 0, rfl, hB g rfl, ?_⟩
    have hc := h.cells (g := g) rfl k x hx
    rw [add_plain] at hc
    exact hc
mutual
theorem Ft.Own.in_ {w : World} {B : Nat} : ∀ (t : Ft) {lo hi : Nat}, t.Own w lo hi → hi ≤ B → t.In w B
  | .mk _ _ _ _ a cap pp, lo, hi, h, hB => by
    rw [Ft.Own] at h
    rw [Ft.In]
    obtain ⟨b, rfl, h1, h2, h3⟩ := h
    have := Ft.Owns.le pp h3
    exact ⟨Row.owned5 h2 (fun k hk => by cases hk; show b < B; omega), Ft.Owns.in_ pp h3 hB⟩
theorem Ft.Owns.in_ {w : World} {B : Nat} : ∀ (ts : List Ft) {lo hi : Nat}, Ft.Owns w lo hi ts → hi ≤ B → Ft.Ins w B ts
  | [], lo, hi, h, hB => trivial
  | t :: ts, lo, hi, h, hB => by
    rw [Ft.Owns] at h
    rw [Ft.Ins]
    obtain ⟨m, h1, h2⟩ := h
    have := Ft.Owns.le ts h2
    exact ⟨Ft.Own.in_ t h1 (by omega), Ft.Owns.in_ ts h2 hB⟩
end
mutual
theorem Ft.Own.lie {w : World} : ∀ (t : Ft) {lo hi : Nat}, t.Own w lo hi → Lie t.places lo hi
  | .mk _ _ _ _ a cap pp, lo, hi, h => by
    rw [Ft.Own] at h
    rw [Ft.places]
    obtain ⟨b, rfl, h1, h2, h3⟩ := h
    have := Ft.Owns.le pp h3
    exact Lie.append (Lie.row (Nat.le_refl b) (Nat.lt_succ_self b)) (Ft.Owns.lie pp h3) (Nat.le_refl _) (by omega) (by omega) |>.grow h1 (Nat.le_refl _)
theorem Ft.Owns.lie {w : World} : ∀ (ts : List Ft) {lo hi : Nat}, Ft.Owns w lo hi ts → Lie (Ft.placess ts) lo hi
  | [], lo, hi, h => Lie.none_
  | t :: ts, lo, hi, h => by
    rw [Ft.Owns] at h
    rw [Ft.placess]
    obtain ⟨m, h1, h2⟩ := h
    have := Ft.Own.le t h1
    have := Ft.Owns.le ts h2
    exact Lie.append (Ft.Own.lie t h1) (Ft.Owns.lie ts h2) (Nat.le_refl _) (by omega) (by omega)
end
end Go.Proofs.YtplchhahjmoodaaDoor
