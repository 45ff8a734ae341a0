/-
  The law's own copy of an edge, of a row of edges, of a program: new rows with the same contents.
-/
import Derived.Test.YtabedmjaodinbaaGreatDoorToStrs
import Derived.Test.YtabedmjaodinbaaGreatDoorEdges
import Derived.Test.YtabedmjaodinbaaGreatDoorStmt
import Derived.Test.YtabedmjaodinbaaGreatDoorApart
namespace Go.Proofs.YtabedmjaodinbaaGreatDoor
open Go Go.RowKit

theorem edgeInfo : (Tryz.prog.info? 44).map (fun i => (i.zero, i.size, i.bytes)) = some (some (.agg #[.int .i64 0, .int .i64 0, .int .i64 0, .string ⟨#[]⟩, .string ⟨#[]⟩]), 5, 56) := by kernel_rfl

/-- A new slice at the heap's end that holds the edges; nothing old has turned. -/
def CopyEdges (es : List Ed) (w : World) (e : Ending) (w' : World) : Prop :=
  e = .returned (.slice (some ⟨w.heap.size, 0, none⟩) es.length es.length) ∧ w'.ownsRow w.heap.size 44 5 (.slice (some ⟨w.heap.size, 0, none⟩) es.length es.length) es.length (edVals es) ∧ Below w.heap.size w w'

/-- Five cells in a row turned at once. -/
def set5 (xs : List Value) (o : Nat) (x : Ed) : List Value := ((((xs.set o (.int .i64 x.f)).set (o + 1) (.int .i64 x.t)).set (o + 2) (.int .i64 x.k)).set (o + 3) (.string x.a)).set (o + 4) (.string x.b)
theorem set5_length (xs : List Value) (o : Nat) (x : Ed) : (set5 xs o x).length = xs.length := by simp [set5]
theorem set5_take (xs : List Value) (o : Nat) (x : Ed) (h : o + 5 ≤ xs.length) : (set5 xs o x).take (o + 5) = xs.take o ++ edCells x := by
  apply List.ext_getElem?
  intro j
  rcases Nat.lt_or_ge j o with hj | hj
  · rw [List.getElem?_append_left (by simp; omega), List.getElem?_take_of_lt (by omega), List.getElem?_take_of_lt hj]
    simp only [set5, List.getElem?_set]
    rw [if_neg (by omega), if_neg (by omega), if_neg (by omega), if_neg (by omega), if_neg (by omega)]
  · rw [List.getElem?_append_right (by simp; omega), List.length_take, Nat.min_eq_left (by omega)]
    rcases Nat.lt_or_ge j (o + 5) with hj5 | hj5
    · obtain ⟨i, rfl, hi⟩ : ∃ i, j = o + i ∧ i < 5 := ⟨j - o, by omega, by omega⟩
      rw [List.getElem?_take_of_lt hj5, Nat.add_sub_cancel_left]
      simp only [set5, List.getElem?_set, List.length_set]
      match i, hi with
      | 0, _ => simp [edCells]; omega
      | 1, _ => simp [edCells]; omega
      | 2, _ => simp [edCells]; omega
      | 3, _ => simp [edCells]; omega
      | 4, _ => simp [edCells]; omega
    · rw [List.getElem?_eq_none (by rw [List.length_take]; omega), List.getElem?_eq_none (by rw [edCells_length]; omega)]

/-- A copy of a program: two new rows; nothing old has turned. -/
def CopyProg (ss : List ByteArray) (p : Int) (es : List Ed) (w : World) (e : Ending) (w' : World) : Prop :=
  ∃ g1 g2, e = .returned (.agg #[.slice (some ⟨g1, 0, none⟩) ss.length ss.length, .int .i64 p, .slice (some ⟨g2, 0, none⟩) es.length es.length]) ∧ w.heap.size ≤ g1 ∧ g1 < g2 ∧
    w'.ownsRow g1 9 1 (.slice (some ⟨g1, 0, none⟩) ss.length ss.length) ss.length (strVals ss) ∧ w'.ownsRow g2 44 5 (.slice (some ⟨g2, 0, none⟩) es.length es.length) es.length (edVals es) ∧ Below w.heap.size w w'

end Go.Proofs.YtabedmjaodinbaaGreatDoor
