/-
  Rows that lie apart: the law's copy of its argument, the program's answer, the model's answer: each turns alone. Nothing here knows of the program.
-/
import Derived.Test.YtplchhahjmoodaaDoorWords
namespace Go.Proofs.YtplchhahjmoodaaDoor
open Go Go.RowKit

theorem own_other {w w' : World} {base e size n : Nat} {v : Value} {xs : List Value} {row : Option Nat} (h : w.ownsRow base e size v n xs) (hg : w.grownBy w' row) (hne : ∀ k, v.ownBlock = some k → some k ≠ row) : w'.ownsRow base e size v n xs := by
  refine ⟨h.1, h.2.imp id ?_⟩
  rintro ⟨g, cap, cur, rfl, hb, hgc, r⟩
  refine ⟨g, cap, cur, rfl, hb, ?_, r⟩
  have hlt : g < w.heap.size := by
    rcases Nat.lt_or_ge g w.heap.size with h1 | h1
    · exact h1
    · rw [Array.getElem?_eq_none h1] at hgc; cases hgc
  rw [hg.block g hlt (hne g rfl)]
  exact hgc
theorem grown_self (w : World) (r : Option Nat) : w.grownBy w r := ⟨rfl, rfl, rfl, Nat.le_refl _, fun _ _ _ => rfl⟩
theorem grown_cell {w W : World} {g i : Nat} {u : Value} (h : w.grownBy W (some g)) : w.grownBy (W.setCell ⟨g, i, none⟩ u) (some g) :=
  ⟨h.os, h.tape, h.output, by simpa using h.size, fun k hk hne => (heap_setCell_other W ⟨g, i, none⟩ k _ (fun e => hne (by simp [e]))).trans (h.block k hk hne)⟩

/-- The copy (x, at block s2), the answer (g, from s3 on), the model's answer (p, below s2). -/
structure Trio (W0 W : World) (s2 s3 : Nat) (ex : TypeId) (xn : Nat) (xs : List Value) (eg : TypeId) (vg : Value) (m : Nat) (gs : List Value) (ap : Option Addr) (ps : List Value) : Prop where
  x : W.ownsRow s2 ex 1 (.slice (some ⟨s2, 0, none⟩) xn xn) xn xs
  g : W.ownsRow s3 eg 1 vg m gs
  p : Row W s2 ap ps
  lt : s2 < s3
  le : s3 ≤ W.heap.size
  old : W0.heap.size ≤ s2
  below : Below W0.heap.size W0 W

section
variable {W0 W W' : World} {s2 s3 : Nat} {ex : TypeId} {xn : Nat} {xs : List Value} {eg : TypeId} {vg : Value} {m : Nat} {gs : List Value} {ap : Option Addr} {ps : List Value}

theorem Trio.call (h : Trio W0 W s2 s3 ex xn xs eg vg m gs ap ps) (hb : Below W.heap.size W W') : Trio W0 W' s2 s3 ex xn xs eg vg m gs ap ps := by
  have := h.le
  have := h.lt
  have := h.old
  exact ⟨own_keeps h.x hb, own_keeps h.g hb, h.p.keeps fun _ hp => hb.cell (by omega), h.lt, Nat.le_trans h.le hb.size, h.old, h.below.trans (hb.mono (by omega))⟩
theorem Trio.draws (h : Trio W0 W s2 s3 ex xn xs eg vg m gs ap ps) (n : Nat) : Trio W0 (W.drewN n) s2 s3 ex xn xs eg vg m gs ap ps := h.call (below_draws (Below.refl _ _) n)
theorem Trio.markX {xs' : List Value} (h : Trio W0 W s2 s3 ex xn xs eg vg m gs ap ps) (hg : W.grownBy W' (some s2)) (hx : W'.ownsRow s2 ex 1 (.slice (some ⟨s2, 0, none⟩) xn xn) xn xs') : Trio W0 W' s2 s3 ex xn xs' eg vg m gs ap ps := by
  have := h.le
  have := h.lt
  have := h.old
  refine ⟨hx, own_other h.g hg fun k hk e => ?_, h.p.keeps fun p hp => World.cell?_of_block (hg.block _ (by omega) fun e => ?_), h.lt, Nat.le_trans h.le hg.size, h.old, h.below.grown hg (by omega) fun k hk => by cases hk; exact h.old⟩
  · have := (h.g.lt k hk).1
    cases e
    omega
  · injection e with e
    omega
theorem Trio.markG {gs' : List Value} (h : Trio W0 W s2 s3 ex xn xs eg vg m gs ap ps) (hg : W.grownBy W' vg.ownBlock) (hx : W'.ownsRow s3 eg 1 vg m gs') : Trio W0 W' s2 s3 ex xn xs eg vg m gs' ap ps := by
  have := h.le
  have := h.lt
  have := h.old
  refine ⟨own_other h.x hg fun k hk e => ?_, hx, h.p.keeps fun p hp => World.cell?_of_block (hg.block _ (by omega) fun e => ?_), h.lt, Nat.le_trans h.le hg.size, h.old, h.below.grown hg (by omega) fun k hk => ?_⟩
  · have := (h.g.lt k e.symm).1
    have hk' : s2 = k := Option.some.inj hk
    omega
  · have := (h.g.lt _ e.symm).1
    omega
  · have := (h.g.lt k hk).1
    omega
theorem Trio.rowX (h : Trio W0 W s2 s3 ex xn xs eg vg m gs ap ps) : Row W W.heap.size (some ⟨s2, 0, none⟩) xs := Row.owned h.x
theorem Trio.rowG {a : Option Addr} {c : Nat} (h : Trio W0 W s2 s3 ex xn xs eg (.slice a m c) m gs ap ps) : Row W W.heap.size a gs := Row.owned h.g
theorem Trio.rowP (h : Trio W0 W s2 s3 ex xn xs eg vg m gs ap ps) : Row W W.heap.size ap ps := h.p.grow (Nat.le_trans (Nat.le_of_lt h.lt) h.le)
theorem Trio.rowOld {a : Option Addr} {zs : List Value} (h : Trio W0 W s2 s3 ex xn xs eg vg m gs ap ps) (hr : Row W0 W0.heap.size a zs) : Row W W.heap.size a zs := (hr.below h.below).grow h.below.size
end
end Go.Proofs.YtplchhahjmoodaaDoor
