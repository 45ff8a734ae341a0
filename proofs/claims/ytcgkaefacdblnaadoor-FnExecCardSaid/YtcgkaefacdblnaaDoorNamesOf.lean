/-
  How many names a kind of statement uses: the table of the program, the walks of the program's function and of the model's.
-/
import Derived.Test.YtcgkaefacdblnaaDoorWords
import Derived.Test.YtcgkaefacdblnaaDoorRows
import Derived.Test.YtcgkaefacdblnaaDoorFlat
namespace Go.Proofs.YtcgkaefacdblnaaDoor
open Go Go.RowKit

def namesN (k : Int) : Int := if k = 1 then 0 else if k = 2 ∨ k = 3 ∨ k = 6 ∨ k = 8 ∨ k = 9 ∨ k = 10 then 1 else if k = 4 ∨ k = 5 ∨ k = 7 ∨ k = 11 ∨ k = 12 then 2 else -1
theorem kinds {k : Int} (h : 1 ≤ k ∧ k ≤ 12) : k = 1 ∨ k = 2 ∨ k = 3 ∨ k = 4 ∨ k = 5 ∨ k = 6 ∨ k = 7 ∨ k = 8 ∨ k = 9 ∨ k = 10 ∨ k = 11 ∨ k = 12 := by omega
theorem namesN_none {k : Int} (h : ¬ (1 ≤ k ∧ k ≤ 12)) : namesN k = -1 := by
  unfold namesN
  rw [if_neg (by omega), if_neg (by omega), if_neg (by omega)]
theorem namesN_four (k : Int) : namesN k = -1 ∨ namesN k = 0 ∨ namesN k = 1 ∨ namesN k = 2 := by
  unfold namesN
  split
  · exact .inr (.inl rfl)
  · split
    · exact .inr (.inr (.inl rfl))
    · split
      · exact .inr (.inr (.inr rfl))
      · exact .inl rfl

def HasNamesTable (w : World) : Prop := w.var? Tryd.prog "loop.example/g00590/impl.namesTable" = some #[Value.int .i64 0, .int .i64 0, .int .i64 1, .int .i64 1, .int .i64 2, .int .i64 2, .int .i64 1, .int .i64 2, .int .i64 1, .int .i64 1, .int .i64 1, .int .i64 2, .int .i64 2]
theorem HasNamesTable.keeps {w w' : World} (h : HasNamesTable w) (hb : Below w.heap.size w w') : HasNamesTable w' := var_stays h hb
theorem gNamesTable : Tryd.prog.globalNamed "loop.example/g00590/impl.namesTable" = some 1 := by kernel_rfl
theorem namesTable_of {W : World} (i : Nat) {l : List (String × DataW Unit)} (h : laidMet Tryd.prog l W) (hi : l[i]? = some ("loop.example/g00590/impl.namesTable", Rows.laid_loop_example_g00590_impl_namesTable)) : HasNamesTable W :=
  (laid_at (t := 96) i h hi gNamesTable (by kernel_rfl) (by kernel_rfl)).trans (congrArg some (show (flat Rows.laid_loop_example_g00590_impl_namesTable).toArray = _ by kernel_rfl))
theorem HasNamesTable.cell {w : World} (h : HasNamesTable w) (i : Nat) : w.cell? ⟨1, i, none⟩ = (#[Value.int .i64 0, .int .i64 0, .int .i64 1, .int .i64 1, .int .i64 2, .int .i64 2, .int .i64 1, .int .i64 2, .int .i64 1, .int .i64 1, .int .i64 1, .int .i64 2, .int .i64 2])[i]? := World.var?_cell gNamesTable h i

/-- It returned x, and nothing has turned. -/
def GaveW (x : Value) (w : World) (e : Ending) (w' : World) : Prop := e = .returned x ∧ w = w'

set_option maxHeartbeats 800000 in
theorem implNamesOf (k : Int) (w : World) (hT : HasNamesTable w) : Calls Tryd.prog 67 #[.int .i64 k] w (GaveW (.int .i64 (namesN k)) w) := by
  by_cases h : 1 ≤ k ∧ k ≤ 12
  · have c1 : w.cell? ⟨1, 1, none⟩ = some (.int .i64 0) := hT.cell 1
    have c2 : w.cell? ⟨1, 2, none⟩ = some (.int .i64 1) := hT.cell 2
    have c3 : w.cell? ⟨1, 3, none⟩ = some (.int .i64 1) := hT.cell 3
    have c4 : w.cell? ⟨1, 4, none⟩ = some (.int .i64 2) := hT.cell 4
    have c5 : w.cell? ⟨1, 5, none⟩ = some (.int .i64 2) := hT.cell 5
    have c6 : w.cell? ⟨1, 6, none⟩ = some (.int .i64 1) := hT.cell 6
    have c7 : w.cell? ⟨1, 7, none⟩ = some (.int .i64 2) := hT.cell 7
    have c8 : w.cell? ⟨1, 8, none⟩ = some (.int .i64 1) := hT.cell 8
    have c9 : w.cell? ⟨1, 9, none⟩ = some (.int .i64 1) := hT.cell 9
    have c10 : w.cell? ⟨1, 10, none⟩ = some (.int .i64 1) := hT.cell 10
    have c11 : w.cell? ⟨1, 11, none⟩ = some (.int .i64 2) := hT.cell 11
    have c12 : w.cell? ⟨1, 12, none⟩ = some (.int .i64 2) := hT.cell 12
    rcases kinds h with rfl | rfl | rfl | rfl | rfl | rfl | rfl | rfl | rfl | rfl | rfl | rfl
    all_goals
      clear h hT
      go_enter Tryd.func67, Tryd.ntmps67
      go_wp2
      go_ret
      exact ⟨rfl, rfl⟩
  · rw [namesN_none h]
    by_cases h1 : k < 1
    · go_enter Tryd.func67, Tryd.ntmps67
      go_wp2
      go_ret
      exact ⟨rfl, rfl⟩
    · have h2 : 12 < k := by omega
      go_enter Tryd.func67, Tryd.ntmps67
      go_wp2
      go_ret
      exact ⟨rfl, rfl⟩

set_option maxHeartbeats 800000 in
theorem specNamesOf (k : Int) (w : World) : Calls Tryd.prog 65 #[.int .i64 k] w (GaveW (.int .i64 (namesN k)) w) := by
  by_cases h : 1 ≤ k ∧ k ≤ 12
  · rcases kinds h with rfl | rfl | rfl | rfl | rfl | rfl | rfl | rfl | rfl | rfl | rfl | rfl
    all_goals
      clear h
      go_enter Tryd.func65, Tryd.ntmps65
      go_wp2
      go_ret
      exact ⟨rfl, rfl⟩
  · rw [namesN_none h]
    have h1 : (k == 1) = false := by simp only [beq_eq_false_iff_ne, ne_eq]; omega
    have h2 : (k == 2) = false := by simp only [beq_eq_false_iff_ne, ne_eq]; omega
    have h3 : (k == 3) = false := by simp only [beq_eq_false_iff_ne, ne_eq]; omega
    have h4 : (k == 4) = false := by simp only [beq_eq_false_iff_ne, ne_eq]; omega
    have h5 : (k == 5) = false := by simp only [beq_eq_false_iff_ne, ne_eq]; omega
    have h6 : (k == 6) = false := by simp only [beq_eq_false_iff_ne, ne_eq]; omega
    have h7 : (k == 7) = false := by simp only [beq_eq_false_iff_ne, ne_eq]; omega
    have h8 : (k == 8) = false := by simp only [beq_eq_false_iff_ne, ne_eq]; omega
    have h9 : (k == 9) = false := by simp only [beq_eq_false_iff_ne, ne_eq]; omega
    have h10 : (k == 10) = false := by simp only [beq_eq_false_iff_ne, ne_eq]; omega
    have h11 : (k == 11) = false := by simp only [beq_eq_false_iff_ne, ne_eq]; omega
    have h12 : (k == 12) = false := by simp only [beq_eq_false_iff_ne, ne_eq]; omega
    clear h
    go_enter Tryd.func65, Tryd.ntmps65
    go_wp2
    go_ret
    exact ⟨rfl, rfl⟩
end Go.Proofs.YtcgkaefacdblnaaDoor
