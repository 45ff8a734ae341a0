/-
  The codes of an execution: their names, which are errors: the table of the program, the walks of the program's functions and of the model's.
-/
import Derived.Test.YtcgkaefacdblnaaDoorStmt
import Derived.Test.YtcgkaefacdblnaaDoorRows
import Derived.Test.YtcgkaefacdblnaaDoorFlat
import Derived.Test.YtcgkaefacdblnaaDoorSpecNames
namespace Go.Proofs.YtcgkaefacdblnaaDoor
open Go Go.RowKit

def errB (k : Int) : Bool := decide (2 ≤ k) && decide (k ≤ 5)
def codeT (k : Int) : ByteArray := if k = 0 then ⟨#[111, 107]⟩ else if k = 1 then ⟨#[98, 108, 111, 99, 107, 101, 100]⟩ else if k = 2 then ⟨#[110, 117, 108, 108]⟩ else if k = 3 then ⟨#[99, 121, 99, 108, 101]⟩ else if k = 4 then ⟨#[108, 101, 97, 107]⟩ else if k = 5 then ⟨#[100, 97, 110, 103, 108, 105, 110, 103]⟩ else if k = 6 then ⟨#[102, 117, 108, 108]⟩ else if k = 7 then ⟨#[98, 97, 100]⟩ else ⟨#[63]⟩
theorem codes8 {k : Int} (h : 0 ≤ k ∧ k ≤ 7) : k = 0 ∨ k = 1 ∨ k = 2 ∨ k = 3 ∨ k = 4 ∨ k = 5 ∨ k = 6 ∨ k = 7 := by omega
theorem codeT_none {k : Int} (h : ¬ (0 ≤ k ∧ k ≤ 7)) : codeT k = ⟨#[63]⟩ := by
  unfold codeT
  rw [if_neg (by omega), if_neg (by omega), if_neg (by omega), if_neg (by omega), if_neg (by omega), if_neg (by omega), if_neg (by omega), if_neg (by omega)]

theorem implIsError (k : Int) (w : World) : Calls Tryd.prog 14 #[.int .i64 k] w fun e w' => e = .returned (.bool (errB k)) ∧ w = w' := by
  by_cases h : 2 ≤ k ∧ k ≤ 5
  · have h' : k = 2 ∨ k = 3 ∨ k = 4 ∨ k = 5 := by omega
    rcases h' with rfl | rfl | rfl | rfl
    all_goals
      clear h
      go_enter Tryd.func14, Tryd.ntmps14
      go_wp2
      go_ret
      exact ⟨rfl, rfl⟩
  · rw [show errB k = false from by simp [errB]; omega]
    have h2 : (k == 2) = false := by simp only [beq_eq_false_iff_ne, ne_eq]; omega
    have h3 : (k == 3) = false := by simp only [beq_eq_false_iff_ne, ne_eq]; omega
    have h4 : (k == 4) = false := by simp only [beq_eq_false_iff_ne, ne_eq]; omega
    have h5 : (k == 5) = false := by simp only [beq_eq_false_iff_ne, ne_eq]; omega
    clear h
    go_enter Tryd.func14, Tryd.ntmps14
    go_wp2
    go_ret
    exact ⟨rfl, rfl⟩
theorem specIsError (k : Int) (w : World) : Calls Tryd.prog 15 #[.int .i64 k] w fun e w' => e = .returned (.bool (errB k)) ∧ w = w' := by
  go_enter Tryd.func15, Tryd.ntmps15
  go_wp2_with fail
  refine (specIn k 2 5 _).mono ?_
  rintro e w1 ⟨rfl, rfl⟩
  go_wp2
  go_ret
  exact ⟨rfl, rfl⟩

def HasCodeNames (w : World) : Prop := w.var? Tryd.prog "loop.example/g00590/impl.codeNames" = some #[Value.string ⟨#[111, 107]⟩, .string ⟨#[98, 108, 111, 99, 107, 101, 100]⟩, .string ⟨#[110, 117, 108, 108]⟩, .string ⟨#[99, 121, 99, 108, 101]⟩, .string ⟨#[108, 101, 97, 107]⟩, .string ⟨#[100, 97, 110, 103, 108, 105, 110, 103]⟩, .string ⟨#[102, 117, 108, 108]⟩, .string ⟨#[98, 97, 100]⟩]
theorem HasCodeNames.keeps {w w' : World} (h : HasCodeNames w) (hb : Below w.heap.size w w') : HasCodeNames w' := var_stays h hb
theorem gCodeNames : Tryd.prog.globalNamed "loop.example/g00590/impl.codeNames" = some 0 := by kernel_rfl
theorem codeNames_of {W : World} (i : Nat) {l : List (String × DataW Unit)} (h : laidMet Tryd.prog l W) (hi : l[i]? = some ("loop.example/g00590/impl.codeNames", Rows.laid_loop_example_g00590_impl_codeNames)) : HasCodeNames W :=
  (laid_at (t := 75) i h hi gCodeNames (by kernel_rfl) (by kernel_rfl)).trans (congrArg some (show (flat Rows.laid_loop_example_g00590_impl_codeNames).toArray = _ by kernel_rfl))
theorem HasCodeNames.cell {w : World} (h : HasCodeNames w) (i : Nat) : w.cell? ⟨0, i, none⟩ = (#[Value.string ⟨#[111, 107]⟩, .string ⟨#[98, 108, 111, 99, 107, 101, 100]⟩, .string ⟨#[110, 117, 108, 108]⟩, .string ⟨#[99, 121, 99, 108, 101]⟩, .string ⟨#[108, 101, 97, 107]⟩, .string ⟨#[100, 97, 110, 103, 108, 105, 110, 103]⟩, .string ⟨#[102, 117, 108, 108]⟩, .string ⟨#[98, 97, 100]⟩])[i]? := World.var?_cell gCodeNames h i

set_option maxHeartbeats 800000 in
theorem implExecName (k : Int) (w : World) (hT : HasCodeNames w) : Calls Tryd.prog 12 #[.int .i64 k] w fun e w' => e = .returned (.string (codeT k)) ∧ w = w' := by
  by_cases h : 0 ≤ k ∧ k ≤ 7
  · have c0 : w.cell? ⟨0, 0, none⟩ = some (.string ⟨#[111, 107]⟩) := hT.cell 0
    have c1 : w.cell? ⟨0, 1, none⟩ = some (.string ⟨#[98, 108, 111, 99, 107, 101, 100]⟩) := hT.cell 1
    have c2 : w.cell? ⟨0, 2, none⟩ = some (.string ⟨#[110, 117, 108, 108]⟩) := hT.cell 2
    have c3 : w.cell? ⟨0, 3, none⟩ = some (.string ⟨#[99, 121, 99, 108, 101]⟩) := hT.cell 3
    have c4 : w.cell? ⟨0, 4, none⟩ = some (.string ⟨#[108, 101, 97, 107]⟩) := hT.cell 4
    have c5 : w.cell? ⟨0, 5, none⟩ = some (.string ⟨#[100, 97, 110, 103, 108, 105, 110, 103]⟩) := hT.cell 5
    have c6 : w.cell? ⟨0, 6, none⟩ = some (.string ⟨#[102, 117, 108, 108]⟩) := hT.cell 6
    have c7 : w.cell? ⟨0, 7, none⟩ = some (.string ⟨#[98, 97, 100]⟩) := hT.cell 7
    rcases codes8 h with rfl | rfl | rfl | rfl | rfl | rfl | rfl | rfl
    all_goals
      clear h hT
      go_enter Tryd.func12, Tryd.ntmps12
      go_wp2
      go_ret
      exact ⟨rfl, rfl⟩
  · rw [codeT_none h]
    by_cases h1 : k < 0
    · go_enter Tryd.func12, Tryd.ntmps12
      go_wp2
      go_ret
      exact ⟨rfl, rfl⟩
    · have h2 : 8 ≤ k := by omega
      go_enter Tryd.func12, Tryd.ntmps12
      go_wp2
      go_ret
      exact ⟨rfl, rfl⟩
set_option maxHeartbeats 800000 in
theorem specExecName (k : Int) (w : World) : Calls Tryd.prog 13 #[.int .i64 k] w fun e w' => e = .returned (.string (codeT k)) ∧ Below w.heap.size w w' := by
  by_cases h : 0 ≤ k ∧ k ≤ 7
  · rcases codes8 h with rfl | rfl | rfl | rfl | rfl | rfl | rfl | rfl
    all_goals
      clear h
      go_enter Tryd.func13, Tryd.ntmps13
      go_wp2_with fail
      refine (specIn _ 0 7 _).mono ?_
      rintro e w1 ⟨rfl, rfl⟩
      go_wp2
      go_ret
      exact ⟨rfl, (Below.refl _ _).alloc (Nat.le_refl _) _⟩
  · rw [codeT_none h]
    have hd : (decide (0 ≤ k) && decide (k ≤ 7)) = false := by
      rw [← Bool.decide_and]
      exact decide_eq_false h
    go_enter Tryd.func13, Tryd.ntmps13
    go_wp2_with fail
    refine (specIn k 0 7 _).mono ?_
    rw [hd]
    rintro e w1 ⟨rfl, rfl⟩
    go_wp2
    go_ret
    exact ⟨rfl, Below.refl _ _⟩
end Go.Proofs.YtcgkaefacdblnaaDoor
