/-
  The three truth values: what chapter 3's functions come to; the walks of the model's functions and of the program's IsTruth and TruthText.
-/
import Derived.Test.YtplchhahjmoodaaWords
import Derived.Test.YtplchhahjmoodaaChecked
namespace Go.Proofs.Ytplchhahjmoodaa
open Go Go.RowKit

def isT (a : Int) : Bool := decide (0 ≤ a) && decide (a ≤ 2)
def notT (a : Int) : Int := if isT a then 2 - a else 1
def andT (a b : Int) : Int := if isT a && isT b then (if a < b then a else b) else 1
def orT (a b : Int) : Int := if isT a && isT b then (if b < a then a else b) else 1
def joinT (a b : Int) : Int := if isT a && (a == b) then a else 1
def withinT (a b : Int) : Bool := isT a && isT b && (b == 1 || a == b)
def textT (a : Int) : ByteArray := if a = 0 then ⟨#[48]⟩ else if a = 1 then ⟨#[63]⟩ else if a = 2 then ⟨#[49]⟩ else ⟨#[]⟩

theorem isT_true {a : Int} : isT a = true ↔ 0 ≤ a ∧ a ≤ 2 := by simp [isT]
theorem isT_three {a : Int} (h : isT a = true) : a = 0 ∨ a = 1 ∨ a = 2 := by rw [isT_true] at h; omega

/-- It returned x, and nothing has turned. -/
def Gave (x : Value) (w : World) (e : Ending) (w' : World) : Prop := e = .returned x ∧ w = w'

theorem implIsTruth (a : Int) (w : World) : Calls Try.prog 43 #[.int .i64 a] w (Gave (.bool (isT a)) w) := by
  by_cases h0 : 0 ≤ a <;> by_cases h1 : a ≤ 2
  all_goals
    go_enter Try.func43, Try.ntmps43
    go_wp2
    go_ret
    exact ⟨by simp [isT, h0, h1], rfl⟩

theorem specInT (a x y : Int) (w : World) : Calls Try.prog 22 #[.int .i64 a, .int .i64 x, .int .i64 y] w (Gave (.bool (decide (x ≤ a) && decide (a ≤ y))) w) := by
  by_cases h0 : x ≤ a <;> by_cases h1 : a ≤ y
  all_goals
    go_enter Try.func22, Try.ntmps22
    go_wp2
    go_ret
    exact ⟨by simp [h0, h1], rfl⟩

theorem specIsTruth (a : Int) (w : World) : Calls Try.prog 21 #[.int .i64 a] w (Gave (.bool (isT a)) w) := by
  go_enter Try.func21, Try.ntmps21
  go_wp2_with fail
  refine (specInT a 0 2 _).mono ?_
  rintro e w1 ⟨rfl, rfl⟩
  go_wp2
  go_ret
  exact ⟨rfl, rfl⟩

theorem textT_none {a : Int} (h : isT a = false) : textT a = ⟨#[]⟩ := by
  have h1 : ¬ (0 ≤ a ∧ a ≤ 2) := fun hh => by rw [isT_true.2 hh] at h; cases h
  have h2 : a ≠ 0 := by omega
  have h3 : a ≠ 1 := by omega
  have h4 : a ≠ 2 := by omega
  simp [textT, h2, h3, h4]

end Go.Proofs.Ytplchhahjmoodaa
