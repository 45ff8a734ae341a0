/-
  Boxes of any number of cells that may be written, in the words of intervals.
-/
import Derived.Test.YtglcailcdcpadaaGreatDoorZ03
namespace Go.Proofs.YtglcailcdcpadaaGreatDoor
open Go Go.RowKit

/-- A box of some cells that may be written. -/
structure BoxL (W : World) (g : Nat) (xs : List Value) : Prop where
  c : ∀ i x, xs[i]? = some x → W.cell? ⟨g, i, none⟩ = some x
  f : ∀ o, W.frozen? ⟨g, o, none⟩ = false
  lt : g < W.heap.size
section
variable {W W' : World} {g lo hi : Nat} {xs : List Value}
theorem BoxL.new (w : World) (xs : List Value) (t : TypeId) : BoxL (w.alloc (.cells xs.toArray t)) w.heap.size xs :=
  ⟨fun i x hx => by rw [World.cell?_alloc_at _ _ _ _ rfl]; simpa using hx, fun o => by simp [go_sem], by simp⟩
theorem two_boxL (w : World) (xs ys : List Value) (t t' : TypeId) : ∃ W0, (w.alloc (.cells xs.toArray t)).alloc (.cells ys.toArray t') = W0 ∧ Below w.heap.size w W0 ∧ BoxL W0 w.heap.size xs ∧ BoxL W0 (w.heap.size + 1) ys := by
  have h1 := BoxL.new w xs t
  have h2 := BoxL.new (w.alloc (.cells xs.toArray t)) ys t'
  have hs : (w.alloc (.cells xs.toArray t)).heap.size = w.heap.size + 1 := by simp
  have hb := (Below.refl (w.alloc (.cells xs.toArray t)).heap.size (w.alloc (.cells xs.toArray t))).alloc (Nat.le_refl _) (.cells ys.toArray t')
  rw [hs] at h2
  refine ⟨_, rfl, ((Below.refl _ _).alloc (Nat.le_refl _) _).alloc (by simp) _, ⟨fun i x hx => (hb.cell (p := ⟨w.heap.size, i, none⟩) (by rw [hs]; exact Nat.lt_succ_self _)).trans (h1.c i x hx), fun o => (hb.frozen (p := ⟨w.heap.size, o, none⟩) (by rw [hs]; exact Nat.lt_succ_self _)).trans (h1.f o), by simp; omega⟩, h2⟩
theorem BoxL.turn (h : BoxL W g xs) (t : Turn lo hi W W') (hd : g < lo ∨ hi ≤ g) : BoxL W' g xs :=
  ⟨fun i x hx => (World.cell?_of_block (t.block g h.lt hd)).trans (h.c i x hx), fun o => (World.frozen?_of_block (t.block g h.lt hd)).trans (h.f o), Nat.lt_of_lt_of_le h.lt t.size⟩
theorem BoxL.below (h : BoxL W g xs) (hb : Below W.heap.size W W') : BoxL W' g xs := h.turn (lo := g + 1) (hi := g + 1) (Turn.of_below hb) (.inl (Nat.lt_succ_self g))
theorem turn_set (W : World) (b i : Nat) (u : Value) : Turn b (b + 1) W (W.setCell ⟨b, i, none⟩ u) :=
  ⟨rfl, rfl, rfl, by simp, fun k _ hd => Below.heap_setCell _ _ _ _ (by show k ≠ b; omega)⟩
theorem BoxL.set (h : BoxL W g xs) (i : Nat) (u : Value) : BoxL (W.setCell ⟨g, i, none⟩ u) g (xs.set i u) := by
  refine ⟨fun j x hx => ?_, fun o => by simp [go_sem, h.f o], by simpa using h.lt⟩
  by_cases hij : i = j
  · subst hij
    have hl : i < xs.length := by
      have := (List.getElem?_eq_some_iff.1 hx).1
      simpa using this
    rw [List.getElem?_set_self hl] at hx
    obtain rfl := Option.some.inj hx
    exact World.cell?_setCell_same _ _ _ (h.c i _ (List.getElem?_eq_getElem hl))
  · rw [List.getElem?_set_ne hij] at hx
    exact (World.cell?_setCell_other _ _ _ _ (fun e => hij (by have := congrArg Addr.off e; simp at this; omega))).trans (h.c j x hx)
end
end Go.Proofs.YtglcailcdcpadaaGreatDoor
