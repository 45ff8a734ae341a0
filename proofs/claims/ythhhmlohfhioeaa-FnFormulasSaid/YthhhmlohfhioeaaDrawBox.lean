/-
  What the walks of draws share: boxes of any number of cells, the cursor beside what is made since, in the words of intervals.
-/
import Derived.Test.YthhhmlohfhioeaaRep
import Derived.Test.YthhhmlohfhioeaaBoxes
import Derived.Test.YthhhmlohfhioeaaDrawNames
namespace Go.Proofs.Ythhhmlohfhioeaa
open Go Go.RowKit

theorem turn_drawn {W W' : World} {g : Nat} (h : W.grownBy W' (some g)) : Turn g (g + 1) W W' := Turn.of_grown h fun k hk => by have := Option.some.inj hk; omega
/-- The cursor, and that nothing else that was there has turned. -/
structure Dg (w : World) (g : Nat) (W : World) : Prop where
  cur : Cur W g
  grown : w.grownBy W (some g)
  hg : g < w.heap.size
section
variable {w W W' : World} {g lo hi : Nat}
theorem Dg.start (h : Cur w g) : Dg w g w := ⟨h, only_same _ _, h.lt⟩
theorem Dg.draw (h : Dg w g W) (hc : Cur W' g) (hw : W.grownBy W' (some g)) : Dg w g W' := ⟨hc, only_then h.grown hw, h.hg⟩
theorem Dg.turn (h : Dg w g W) (t : Turn lo hi W W') (hl : w.heap.size ≤ lo) : Dg w g W' :=
  have hg := h.hg
  have hs := h.grown.size
  ⟨h.cur.upto ⟨t.os, t.tape, t.output, t.size, fun k hk => t.block k (by omega) (.inl (by omega))⟩,
    ⟨t.os.trans h.grown.os, t.tape.trans h.grown.tape, t.output.trans h.grown.output, Nat.le_trans hs t.size, fun k hk hne => (t.block k (by omega) (.inl (by omega))).trans (h.grown.block k hk hne)⟩, hg⟩
theorem Dg.below (h : Dg w g W) (hb : Below W.heap.size W W') : Dg w g W' := h.turn (lo := w.heap.size) (hi := w.heap.size) (Turn.of_below hb) (Nat.le_refl _)
end
end Go.Proofs.Ythhhmlohfhioeaa
