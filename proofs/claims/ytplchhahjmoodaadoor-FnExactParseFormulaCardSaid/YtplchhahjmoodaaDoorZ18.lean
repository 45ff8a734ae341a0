/-
  The law's own copy of a formula: a new tree with the same contents.
-/
import Derived.Laws.ResultCell
import Derived.Test.YtplchhahjmoodaaDoorZ12
namespace Go.Proofs.YtplchhahjmoodaaDoor
open Go Go.RowKit Go.ChangeAt

theorem fmInfo : (Tryd.prog.info? 26).map (fun i => (i.zero, i.size, i.bytes)) = some (some (.agg #[.int .i64 0, .int .i64 0, .int .i64 0, .int .i64 0, .slice none 0 0]), 5, 56) := by kernel_rfl

/-- A new tree that holds the formula; nothing old has turned. -/
def CopyTree (x : Ft) (w : World) (e : Ending) (w' : World) : Prop :=
  ∃ y : Ft, e = .returned y.val ∧ y.er = x.er ∧ y.Own w' w.heap.size w'.heap.size ∧ Below w.heap.size w w'
def CopyRow (ts : List Ft) (w : World) (e : Ending) (w' : World) : Prop :=
  ∃ ys : List Ft, e = .returned (.slice (some ⟨w.heap.size, 0, none⟩) ts.length ts.length) ∧ ys.map Ft.er = ts.map Ft.er ∧
    w'.ownsRow w.heap.size 26 5 (.slice (some ⟨w.heap.size, 0, none⟩) ts.length ts.length) ts.length (fmVals ys) ∧ Ft.Owns w' (w.heap.size + 1) w'.heap.size ys ∧ Below w.heap.size w w'

/-- Five cells in a row turned at once. -/
def setNode (xs : List Value) (o : Nat) (x : Ft) : List Value := ((((xs.set o (.int .i64 x.kd)).set (o + 1) (.int .i64 x.k)).set (o + 2) (.int .i64 x.u)).set (o + 3) (.int .i64 x.v)).set (o + 4) (.slice x.a x.args.length x.cap)
theorem setNode_length (xs : List Value) (o : Nat) (x : Ft) : (setNode xs o x).length = xs.length := by simp [setNode]
theorem setNode_take (xs : List Value) (o : Nat) (x : Ft) (h : o + 5 ≤ xs.length) : (setNode xs o x).take (o + 5) = xs.take o ++ x.cells := by
  apply List.ext_getElem?
  intro j
  rcases Nat.lt_or_ge j o with hj | hj
  · rw [List.getElem?_append_left (by simp; omega), List.getElem?_take_of_lt (by omega), List.getElem?_take_of_lt hj]
    simp only [setNode, List.getElem?_set]
    rw [if_neg (by omega), if_neg (by omega), if_neg (by omega), if_neg (by omega), if_neg (by omega)]
  · rw [List.getElem?_append_right (by simp; omega), List.length_take, Nat.min_eq_left (by omega)]
    rcases Nat.lt_or_ge j (o + 5) with hj5 | hj5
    · obtain ⟨i, rfl, hi⟩ : ∃ i, j = o + i ∧ i < 5 := ⟨j - o, by omega, by omega⟩
      rw [List.getElem?_take_of_lt hj5, Nat.add_sub_cancel_left]
      simp only [setNode, List.getElem?_set, List.length_set]
      match i, hi with
      | 0, _ => simp [Ft.cells]; omega
      | 1, _ => simp [Ft.cells]; omega
      | 2, _ => simp [Ft.cells]; omega
      | 3, _ => simp [Ft.cells]; omega
      | 4, _ => simp [Ft.cells]; omega
    · rw [List.getElem?_eq_none (by rw [List.length_take]; omega), List.getElem?_eq_none (by rw [Ft.cells_length]; omega)]

theorem ers_next (ts ys : List Ft) (k : Nat) (h : k < ts.length) (y : Ft) (hy : ys.map Ft.er = (ts.take k).map Ft.er) (he : y.er = (ts[k]).er) : (ys ++ [y]).map Ft.er = (ts.take (k + 1)).map Ft.er := by
  rw [take_next ts k h, List.map_append, List.map_append, hy, List.map_cons, List.map_nil, he]
  rfl

end Go.Proofs.YtplchhahjmoodaaDoor
