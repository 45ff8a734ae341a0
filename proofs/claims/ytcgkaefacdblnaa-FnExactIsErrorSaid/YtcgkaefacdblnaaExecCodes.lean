/-
  The codes of an execution: their names, which are errors: the table of the program, the walks of the program's functions and of the model's.
-/
import Derived.Test.YtcgkaefacdblnaaStmt
import Derived.Test.YtcgkaefacdblnaaRows
import Derived.Test.YtcgkaefacdblnaaFlat
import Derived.Test.YtcgkaefacdblnaaSpecNames
namespace Go.Proofs.Ytcgkaefacdblnaa
open Go Go.RowKit

def errB (k : Int) : Bool := decide (2 ≤ k) && decide (k ≤ 5)
def codeT (k : Int) : ByteArray := if k = 0 then ⟨#[111, 107]⟩ else if k = 1 then ⟨#[98, 108, 111, 99, 107, 101, 100]⟩ else if k = 2 then ⟨#[110, 117, 108, 108]⟩ else if k = 3 then ⟨#[99, 121, 99, 108, 101]⟩ else if k = 4 then ⟨#[108, 101, 97, 107]⟩ else if k = 5 then ⟨#[100, 97, 110, 103, 108, 105, 110, 103]⟩ else if k = 6 then ⟨#[102, 117, 108, 108]⟩ else if k = 7 then ⟨#[98, 97, 100]⟩ else ⟨#[63]⟩
theorem codes8 {k : Int} (h : 0 ≤ k ∧ k ≤ 7) : k = 0 ∨ k = 1 ∨ k = 2 ∨ k = 3 ∨ k = 4 ∨ k = 5 ∨ k = 6 ∨ k = 7 := by omega
theorem codeT_none {k : Int} (h : ¬ (0 ≤ k ∧ k ≤ 7)) : codeT k = ⟨#[63]⟩ := by
  unfold codeT
  rw [if_neg (by omega), if_neg (by omega), if_neg (by omega), if_neg (by omega), if_neg (by omega), if_neg (by omega), if_neg (by omega), if_neg (by omega)]

theorem implIsError (k : Int) (w : World) : Calls Try.prog 5 #[.int .i64 k] w fun e w' => e = .returned (.bool (errB k)) ∧ w = w' := by
  by_cases h : 2 ≤ k ∧ k ≤ 5
  · have h' : k = 2 ∨ k = 3 ∨ k = 4 ∨ k = 5 := by omega
    rcases h' with rfl | rfl | rfl | rfl
    all_goals
      clear h
      go_enter Try.func5, Try.ntmps5
      go_wp2
      go_ret
      exact ⟨rfl, rfl⟩
  · rw [show errB k = false from by simp [errB]; omega]
    have h2 : (k == 2) = false := by simp only [beq_eq_false_iff_ne, ne_eq]; omega
    have h3 : (k == 3) = false := by simp only [beq_eq_false_iff_ne, ne_eq]; omega
    have h4 : (k == 4) = false := by simp only [beq_eq_false_iff_ne, ne_eq]; omega
    have h5 : (k == 5) = false := by simp only [beq_eq_false_iff_ne, ne_eq]; omega
    clear h
    go_enter Try.func5, Try.ntmps5
    go_wp2
    go_ret
    exact ⟨rfl, rfl⟩
theorem specIsError (k : Int) (w : World) : Calls Try.prog 4 #[.int .i64 k] w fun e w' => e = .returned (.bool (errB k)) ∧ w = w' := by
  go_enter Try.func4, Try.ntmps4
  go_wp2_with fail
  refine (specIn k 2 5 _).mono ?_
  rintro e w1 ⟨rfl, rfl⟩
  go_wp2
  go_ret
  exact ⟨rfl, rfl⟩

def HasCodeNames (w : World) : Prop := w.var? Try.prog "loop.example/g00590/impl.codeNames" = some #[Value.string ⟨#[111, 107]⟩, .string ⟨#[98, 108, 111, 99, 107, 101, 100]⟩, .string ⟨#[110, 117, 108, 108]⟩, .string ⟨#[99, 121, 99, 108, 101]⟩, .string ⟨#[108, 101, 97, 107]⟩, .string ⟨#[100, 97, 110, 103, 108, 105, 110, 103]⟩, .string ⟨#[102, 117, 108, 108]⟩, .string ⟨#[98, 97, 100]⟩]
theorem HasCodeNames.keeps {w w' : World} (h : HasCodeNames w) (hb : Below w.heap.size w w') : HasCodeNames w' := var_stays h hb
end Go.Proofs.Ytcgkaefacdblnaa
