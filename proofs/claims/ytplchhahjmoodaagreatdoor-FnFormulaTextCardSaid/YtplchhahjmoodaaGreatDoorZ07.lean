/-
  Statements: what chapter 4's functions come to; the law's own helpers over a statement. A statement is a struct of a kind and two names.
-/
import Derived.Test.YtplchhahjmoodaaGreatDoorChecked
import Derived.Laws.ResultCell
import Derived.Test.YtplchhahjmoodaaGreatDoorZ02
namespace Go.Proofs.YtplchhahjmoodaaGreatDoor
open Go Go.RowKit

abbrev stV (k : Int) (a b : ByteArray) : Value := .agg #[.int .i64 k, .string a, .string b]
def isTestS (k : Int) : Bool := decide (9 ≤ k) && decide (k ≤ 12)
def oppS (k : Int) : Int := if k = 9 then 10 else if k = 10 then 9 else if k = 11 then 12 else 11
theorem isTestS_true {k : Int} : isTestS k = true ↔ 9 ≤ k ∧ k ≤ 12 := by simp [isTestS]
theorem isTestS_four {k : Int} (h : isTestS k = true) : k = 9 ∨ k = 10 ∨ k = 11 ∨ k = 12 := by rw [isTestS_true] at h; omega

/-- It returned x; what was there is as it was. -/
def GaveB (x : Value) (w : World) (e : Ending) (w' : World) : Prop := e = .returned x ∧ Below w.heap.size w w'


/-- The size guard: an int; where it is not negative, the names fit into the allowance. -/
def SzStmtEnd (a b : ByteArray) (left : Nat) (w : World) (e : Ending) (w' : World) : Prop :=
  ∃ r : Int, e = .returned (.int .i64 r) ∧ Below w.heap.size w w' ∧ r ≤ left ∧ (0 ≤ r → (a.size : Int) + b.size + r = left)
theorem str_eq_self (s : ByteArray) : (s.toList == s.toList) = true := by simp
theorem specIn3 (a x y : Int) (w : World) : Calls Tryz.prog 56 #[.int .i64 a, .int .i64 x, .int .i64 y] w fun e w' => e = .returned (.bool (decide (x ≤ a) && decide (a ≤ y))) ∧ w = w' := by
  by_cases h0 : x ≤ a <;> by_cases h1 : a ≤ y
  all_goals
    go_enter Tryz.func56, Tryz.ntmps56
    go_wp2
    go_ret
    exact ⟨by simp [h0, h1], rfl⟩

def noneS : Value := .tuple #[stV 0 ⟨#[]⟩ ⟨#[]⟩, .bool false]
theorem bcell {W w1 : World} (hb : Below W.heap.size W w1) : (∀ b o, b < W.heap.size → w1.cell? ⟨b, o, none⟩ = W.cell? ⟨b, o, none⟩) ∧ (∀ b o, b < W.heap.size → w1.frozen? ⟨b, o, none⟩ = W.frozen? ⟨b, o, none⟩) :=
  ⟨fun b o h => hb.cell (p := ⟨b, o, none⟩) h, fun b o h => hb.frozen (p := ⟨b, o, none⟩) h⟩

end Go.Proofs.YtplchhahjmoodaaGreatDoor
