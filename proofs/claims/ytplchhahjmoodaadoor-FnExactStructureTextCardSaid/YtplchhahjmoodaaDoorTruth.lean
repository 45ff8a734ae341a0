/-
  The three truth values: what chapter 3's functions come to; the walks of the model's functions and of the program's IsTruth and TruthText.
-/
import Derived.Test.YtplchhahjmoodaaDoorWords
import Derived.Test.YtplchhahjmoodaaDoorChecked
namespace Go.Proofs.YtplchhahjmoodaaDoor
open Go Go.RowKit

def isT (a : Int) : Bool := decide (0 ≤ a) && decide (a ≤ 2)
def notT (a : Int) : Int := if isT a then 2 - a else 1
def andT (a b : Int) : Int := if isT a && isT b then (if a < b then a else b) else 1
def orT (a b : Int) : Int := if isT a && isT b then (if b < a then a else b) else 1
def joinT (a b : Int) : Int := if isT a && (a == b) then a else 1
def withinT (a b : Int) : Bool := isT a && isT b && (b == 1 || a == b)
def textT (a : Int) : ByteArray := if a = 0 then ⟨#[48]⟩ else if a = 1 then ⟨#[63]⟩ else if a = 2 then ⟨#[49]⟩ else ⟨#[]⟩

theorem isT_true {a : Int} : isT a = true ↔ 0 ≤ a ∧ a ≤ 2 := by simp [isT]
theorem isT_three {a : Int} (h : isT a = true) : a = 0 ∨ a = 1 ∨ a = 2 := by rw [isT_true] at h; omega

/-- It returned x, and nothing has turned. -/
def Gave (x : Value) (w : World) (e : Ending) (w' : World) : Prop := e = .returned x ∧ w = w'

theorem implIsTruth (a : Int) (w : World) : Calls Tryd.prog 93 #[.int .i64 a] w (Gave (.bool (isT a)) w) := by
  by_cases h0 : 0 ≤ a <;> by_cases h1 : a ≤ 2
  all_goals
    go_enter Tryd.func93, Tryd.ntmps93
    go_wp2
    go_ret
    exact ⟨by simp [isT, h0, h1], rfl⟩

theorem specInT (a x y : Int) (w : World) : Calls Tryd.prog 58 #[.int .i64 a, .int .i64 x, .int .i64 y] w (Gave (.bool (decide (x ≤ a) && decide (a ≤ y))) w) := by
  by_cases h0 : x ≤ a <;> by_cases h1 : a ≤ y
  all_goals
    go_enter Tryd.func58, Tryd.ntmps58
    go_wp2
    go_ret
    exact ⟨by simp [h0, h1], rfl⟩

theorem specIsTruth (a : Int) (w : World) : Calls Tryd.prog 60 #[.int .i64 a] w (Gave (.bool (isT a)) w) := by
  go_enter Tryd.func60, Tryd.ntmps60
  go_wp2_with fail
  refine (specInT a 0 2 _).mono ?_
  rintro e w1 ⟨rfl, rfl⟩
  go_wp2
  go_ret
  exact ⟨rfl, rfl⟩

theorem specMaxT (a b : Int) (w : World) : Calls Tryd.prog 98 #[.int .i64 a, .int .i64 b] w (Gave (.int .i64 (if b < a then a else b)) w) := by
  by_cases h : b < a
  · rw [if_pos h]
    go_enter Tryd.func98, Tryd.ntmps98
    go_wp2
    go_ret
    exact ⟨rfl, rfl⟩
  · rw [if_neg h]
    go_enter Tryd.func98, Tryd.ntmps98
    go_wp2
    go_ret
    exact ⟨rfl, rfl⟩

theorem textT_none {a : Int} (h : isT a = false) : textT a = ⟨#[]⟩ := by
  have h1 : ¬ (0 ≤ a ∧ a ≤ 2) := fun hh => by rw [isT_true.2 hh] at h; cases h
  have h2 : a ≠ 0 := by omega
  have h3 : a ≠ 1 := by omega
  have h4 : a ≠ 2 := by omega
  simp [textT, h2, h3, h4]

theorem specTruthText (a : Int) (w : World) : Calls Tryd.prog 62 #[.int .i64 a] w (Gave (.string (textT a)) w) := by
  cases h : isT a with
  | false =>
    rw [textT_none h]
    have H := Lib.hid h
    clear h
    go_enter Tryd.func62, Tryd.ntmps62
    go_wp2_with fail
    refine (specIsTruth a _).mono ?_
    rw [H.out]
    rintro e w1 ⟨rfl, rfl⟩
    go_wp2
    go_ret
    exact ⟨rfl, rfl⟩
  | true =>
    rcases isT_three h with rfl | rfl | rfl
    all_goals
      clear h
      go_enter Tryd.func62, Tryd.ntmps62
      go_wp2_with fail
      refine (specIsTruth _ _).mono ?_
      rintro e w1 ⟨rfl, rfl⟩
      simp only [show isT 0 = true from rfl, show isT 1 = true from rfl, show isT 2 = true from rfl]
      go_wp2
      go_ret
      exact ⟨rfl, rfl⟩
end Go.Proofs.YtplchhahjmoodaaDoor
