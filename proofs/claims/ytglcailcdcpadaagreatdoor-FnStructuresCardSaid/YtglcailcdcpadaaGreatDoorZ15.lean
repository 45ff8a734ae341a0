/-
  The program's canonical heap.
-/
import Derived.Deep.RegionLaw
import Derived.Deep.AppendLies
import Derived.Test.YtglcailcdcpadaaGreatDoorZ11
namespace Go.Proofs.YtglcailcdcpadaaGreatDoor
open Go Go.RowKit Go.Maps

/-- All that the walk knows: the argument's box, the answer's box, the heap so far in a box at Q. -/
structure Cn (w : World) (Q : Nat) (u0 u1 x0 x1 : Value) (W : World) : Prop where
  below : Below w.heap.size w W
  arg : Box2 W w.heap.size u0 u1
  res : Box2 W (w.heap.size + 1) (.slice none 0 0) (.slice none 0 0)
  resf : ∀ o, W.frozen? ⟨w.heap.size + 1, o, none⟩ = false
  box : Box2 W Q x0 x1
  boxf : ∀ o, W.frozen? ⟨Q, o, none⟩ = false
  hQ : w.heap.size + 1 < Q
  hW : Q < W.heap.size
section
variable {w W W' : World} {Q : Nat} {u0 u1 x0 x1 : Value}
theorem Cn.same (h : Cn w Q u0 u1 x0 x1 W) (hb : Below w.heap.size w W') (hk : ∀ k, k ≤ Q → (k = w.heap.size ∨ k = w.heap.size + 1 ∨ k = Q) → W'.heap[k]? = W.heap[k]?) (hs : W.heap.size ≤ W'.heap.size) : Cn w Q u0 u1 x0 x1 W' :=
  have h1 := h.hQ
  have k0 := hk w.heap.size (by omega) (.inl rfl)
  have k1 := hk (w.heap.size + 1) (by omega) (.inr (.inl rfl))
  have k2 := hk Q (Nat.le_refl _) (.inr (.inr rfl))
  ⟨hb, ⟨(World.cell?_of_block k0).trans h.arg.1, (World.cell?_of_block k0).trans h.arg.2⟩, ⟨(World.cell?_of_block k1).trans h.res.1, (World.cell?_of_block k1).trans h.res.2⟩, fun o => (World.frozen?_of_block k1).trans (h.resf o),
    ⟨(World.cell?_of_block k2).trans h.box.1, (World.cell?_of_block k2).trans h.box.2⟩, fun o => (World.frozen?_of_block k2).trans (h.boxf o), h1, Nat.lt_of_lt_of_le h.hW hs⟩
theorem Cn.call (h : Cn w Q u0 u1 x0 x1 W) (hb : Below W.heap.size W W') : Cn w Q u0 u1 x0 x1 W' :=
  h.same (h.below.trans (hb.mono h.below.size)) (fun k hk _ => hb.block k (Nat.lt_of_le_of_lt hk h.hW)) hb.size
theorem Cn.growR {r : Option Nat} (h : Cn w Q u0 u1 x0 x1 W) (hg : W.grownBy W' r) (hr : ∀ k, r = some k → Q < k) : Cn w Q u0 u1 x0 x1 W' :=
  have h1 := h.hQ
  have h2 := h.hW
  h.same (h.below.grown hg (by omega) (fun k hk => by have := hr k hk; omega)) (fun k hk _ => hg.block k (by omega) fun e => by have := hr k e.symm; omega) hg.size
theorem Cn.setQ (h : Cn w Q u0 u1 x0 x1 W) (i : Nat) (u : Value) : Cn w Q u0 u1 (if i = 0 then u else x0) (if i = 1 then u else x1) (W.setCell ⟨Q, i, none⟩ u) :=
  have h1 := h.hQ
  have kp : ∀ j x, W.cell? ⟨Q, j, none⟩ = some x → (W.setCell ⟨Q, i, none⟩ u).cell? ⟨Q, j, none⟩ = some (if i = j then u else x) := fun j x hx => by
    by_cases hij : i = j
    · subst hij
      rw [if_pos rfl]
      exact World.cell?_setCell_same _ _ _ hx
    · rw [if_neg hij]
      exact (World.cell?_setCell_other _ _ _ _ (fun e => hij (by have := congrArg Addr.off e; simp at this; omega))).trans hx
  have kn : ∀ k, k ≠ Q → (W.setCell ⟨Q, i, none⟩ u).heap[k]? = W.heap[k]? := fun k hk => Below.heap_setCell _ _ _ _ hk
  ⟨h.below.setCell (p := ⟨Q, i, none⟩) (by show w.heap.size ≤ Q; omega) u,
    ⟨(World.cell?_of_block (kn _ (by show w.heap.size ≠ Q; omega))).trans h.arg.1, (World.cell?_of_block (kn _ (by show w.heap.size ≠ Q; omega))).trans h.arg.2⟩,
    ⟨(World.cell?_of_block (kn _ (by show w.heap.size + 1 ≠ Q; omega))).trans h.res.1, (World.cell?_of_block (kn _ (by show w.heap.size + 1 ≠ Q; omega))).trans h.res.2⟩,
    fun o => (World.frozen?_of_block (kn _ (by show w.heap.size + 1 ≠ Q; omega))).trans (h.resf o),
    ⟨kp 0 _ h.box.1, kp 1 _ h.box.2⟩, fun o => by simp [go_sem, h.boxf o], h1, by simpa using h.hW⟩
end
theorem own_shape {w : World} {base e size n : Nat} {v : Value} {xs : List Value} (h : w.ownsRow base e size v n xs) : ∃ a c, v = .slice a n c ∧ n ≤ c := by
  rcases h.2 with ⟨rfl, rfl⟩ | ⟨g, cap, cur, rfl, _, _, hc, _⟩
  · exact ⟨_, _, rfl, Nat.le_refl _⟩
  · exact ⟨_, _, rfl, hc⟩
theorem own_drew {w : World} {base e size n : Nat} {v : Value} {xs : List Value} (h : w.ownsRow base e size v n xs) : w.drew.ownsRow base e size v n xs := own_keeps h (Below.drew (Below.refl _ _))
theorem map_take_next {α β : Type} (f : α → β) (l : List α) (k : Nat) (h : k < l.length) : (l.take (k + 1)).map f = (l.take k).map f ++ [f l[k]] := by
  rw [take_next l k h, List.map_append]
  rfl
/-- What every target of a good heap is: null, or met. -/
theorem good_met {vs zs : List Int} {c : Int} (h : c = -1 ∨ isC zs c = true) (hm : isC zs c = true → c ∈ order vs zs) : c = -1 ∨ c ∈ order vs zs := h.imp id hm
theorem good_bounds {zs : List Int} {c : Int} (hz : zs.length ≤ 1048576) (h : c = -1 ∨ isC zs c = true) : -9223372036854775808 ≤ c ∧ c ≤ 9223372036854775807 := by
  rcases h with rfl | h
  · omega
  · have := isC_iff.1 h
    omega
theorem order_minus (vs zs : List Int) : -1 ∉ order vs zs := fun hm => by have := (order_end vs zs).cells _ hm; rw [isC_minus] at this; cases this

/-- A heap that a call made. -/
def MadeHeap (vs zs : List Int) (w : World) (e : Ending) (w' : World) : Prop :=
  ∃ a ca b cb, e = .returned (heV a vs.length ca b zs.length cb) ∧ HeapIn w.heap.size w'.heap.size w' a ca b cb (intVals vs) (intVals zs) ∧ Below w.heap.size w w'

end Go.Proofs.YtglcailcdcpadaaGreatDoor
