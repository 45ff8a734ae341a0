/-
  What the given rows' lists give the walks: the table of powers of ten, the two sentinels of strconv; both are kept where nothing old has turned.
-/
import Derived.Test.YtplchhahjmoodaaDoorWords
import Derived.Test.YtplchhahjmoodaaDoorChecked
import Derived.Test.YtplchhahjmoodaaDoorRows
import Derived.Lib.LaidTab
import Derived.Stop.LaidErr
import Derived.Shelf.Strconv.Itoa3
import Derived.LaidMore
import Derived.Deep.DeepWitnessRowRef
namespace Go.Proofs.YtplchhahjmoodaaDoor
open Go Go.RowKit

theorem var_keeps {P : Program} {w w' : World} {n : String} {cs : Array Value} (h : w.var? P n = some cs) (hb : Below w.heap.size w w') : w'.var? P n = some cs := by
  unfold World.var? at h ⊢
  cases hg : P.globalNamed n with
  | none => simp [hg] at h
  | some g =>
    simp only [hg, Option.bind_some] at h ⊢
    have hlt : g < w.heap.size := by
      rcases Nat.lt_or_ge g w.heap.size with h' | h'
      · exact h'
      · simp [Array.getElem?_eq_none h'] at h
    rw [hb.block g hlt]
    exact h

theorem below_grow (w : World) (k : Nat) (os : Array Obj) : Below w.heap.size w (Sort.grow (w.drewN k) os) :=
  ⟨rfl, rfl, rfl, by simp [Sort.grow], fun i hi => by
    show (w.heap ++ os)[i]? = w.heap[i]?
    rw [Array.getElem?_append_left hi]⟩

/-- The table of powers of ten. -/
def Pows (w : World) : Prop := Lib.TabIs Tryd.prog w "internal/strconv.uint64pow10" .u64 Lib.pow10Tab
theorem Pows.keeps {w w' : World} (h : Pows w) (hb : Below w.heap.size w w') : Pows w' := var_keeps h hb

theorem gPow : Tryd.prog.globalNamed "internal/strconv.uint64pow10" = some 2 := by kernel_rfl
theorem gPowType : (Tryd.prog.globals[2]?).map (·.type) = some 176 := by kernel_rfl
theorem cellsPow : Tryd.prog.cellsOf 176 = 20 := by kernel_rfl
theorem cellsU64 : Tryd.prog.cellsOf 167 = 1 := by kernel_rfl

/-- The third on a row's list. -/
theorem pows_of {W : World} {x y : String × DataW Unit} {rest : List (String × DataW Unit)} (h : laidMet Tryd.prog (x :: y :: ("internal/strconv.uint64pow10", Rows.laid_internal_strconv_uint64pow10) :: rest) W) : Pows W :=
  Lib.tabIs_of_head (rest := rest) gPow gPowType Tryd.underlying176 Tryd.underlying167 cellsU64 cellsPow h.tail.tail

theorem starErr : "*" ++ "errors.errorString" = "*errors.errorString" := by decide
/-- The two sentinels hold something. -/
def Sents (w : World) : Prop := (∃ tp p, w.var? Tryd.prog "strconv.ErrSyntax" = some #[.iface tp p]) ∧ ∃ tp p, w.var? Tryd.prog "strconv.ErrRange" = some #[.iface tp p]
theorem Sents.keeps {w w' : World} (h : Sents w) (hb : Below w.heap.size w w') : Sents w' := by
  obtain ⟨⟨t, p, h1⟩, t', p', h2⟩ := h
  exact ⟨⟨t, p, var_keeps h1 hb⟩, t', p', var_keeps h2 hb⟩
end Go.Proofs.YtplchhahjmoodaaDoor
