/-
  The three truth values: what chapter 3's functions come to; the walks of the model's functions and of the program's IsTruth and TruthText.
-/
import Derived.Test.YtbnpfgkcehlfnaaDoorWords
import Derived.Test.YtbnpfgkcehlfnaaDoorChecked
namespace Go.Proofs.YtbnpfgkcehlfnaaDoor
open Go Go.RowKit

def isT (a : Int) : Bool := decide (0 ≤ a) && decide (a ≤ 2)
def notT (a : Int) : Int := if isT a then 2 - a else 1
def andT (a b : Int) : Int := if isT a && isT b then (if a < b then a else b) else 1
def orT (a b : Int) : Int := if isT a && isT b then (if b < a then a else b) else 1
def joinT (a b : Int) : Int := if isT a && (a == b) then a else 1
def withinT (a b : Int) : Bool := isT a && isT b && (b == 1 || a == b)
def textT (a : Int) : ByteArray := if a = 0 then ⟨#[48]⟩ else if a = 1 then ⟨#[63]⟩ else if a = 2 then ⟨#[49]⟩ else ⟨#[]⟩

theorem isT_true {a : Int} : isT a = true ↔ 0 ≤ a ∧ a ≤ 2 := by simp [isT]
theorem isT_three {a : Int} (h : isT a = true) : a = 0 ∨ a = 1 ∨ a = 2 := by rw [isT_true] at h; omega

/-- It returned x, and nothing has turned. -/
def Gave (x : Value) (w : World) (e : Ending) (w' : World) : Prop := e = .returned x ∧ w = w'

theorem implIsTruth (a : Int) (w : World) : Calls Tryd.prog 24 #[.int .i64 a] w (Gave (.bool (isT a)) w) := by
  by_cases h0 : 0 ≤ a <;> by_cases h1 : a ≤ 2
  all_goals
    go_enter Tryd.func24, Tryd.ntmps24
    go_wp2
    go_ret
    exact ⟨by simp [isT, h0, h1], rfl⟩

theorem specIn (a x y : Int) (w : World) : Calls Tryd.prog 30 #[.int .i64 a, .int .i64 x, .int .i64 y] w (Gave (.bool (decide (x ≤ a) && decide (a ≤ y))) w) := by
  by_cases h0 : x ≤ a <;> by_cases h1 : a ≤ y
  all_goals
    go_enter Tryd.func30, Tryd.ntmps30
    go_wp2
    go_ret
    exact ⟨by simp [h0, h1], rfl⟩

theorem specIsTruth (a : Int) (w : World) : Calls Tryd.prog 25 #[.int .i64 a] w (Gave (.bool (isT a)) w) := by
  go_enter Tryd.func25, Tryd.ntmps25
  go_wp2_with fail
  refine (specIn a 0 2 _).mono ?_
  rintro e w1 ⟨rfl, rfl⟩
  go_wp2
  go_ret
  exact ⟨rfl, rfl⟩

theorem specNotOf (a : Int) (w : World) : Calls Tryd.prog 17 #[.int .i64 a] w (Gave (.int .i64 (notT a)) w) := by
  cases h : isT a with
  | false =>
    have hn : notT a = 1 := by simp [notT, h]
    rw [hn]
    have H := Lib.hid h
    clear h hn
    go_enter Tryd.func17, Tryd.ntmps17
    go_wp2_with fail
    refine (specIsTruth a _).mono ?_
    rw [H.out]
    rintro e w1 ⟨rfl, rfl⟩
    go_wp2
    go_ret
    exact ⟨rfl, rfl⟩
  | true =>
    have hn : notT a = 2 - a := by simp [notT, h]
    rw [hn]
    have hr := isT_true.1 h
    have H := Lib.hid h
    clear h hn
    go_enter Tryd.func17, Tryd.ntmps17
    go_wp2_with fail
    refine (specIsTruth a _).mono ?_
    rw [H.out]
    rintro e w1 ⟨rfl, rfl⟩
    go_wp2
    go_ret
    exact ⟨by go_num, rfl⟩

theorem specMin (a b : Int) (w : World) : Calls Tryd.prog 28 #[.int .i64 a, .int .i64 b] w (Gave (.int .i64 (if a < b then a else b)) w) := by
  by_cases h : a < b
  · rw [if_pos h]
    go_enter Tryd.func28, Tryd.ntmps28
    go_wp2
    go_ret
    exact ⟨rfl, rfl⟩
  · rw [if_neg h]
    go_enter Tryd.func28, Tryd.ntmps28
    go_wp2
    go_ret
    exact ⟨rfl, rfl⟩

theorem specMax (a b : Int) (w : World) : Calls Tryd.prog 29 #[.int .i64 a, .int .i64 b] w (Gave (.int .i64 (if b < a then a else b)) w) := by
  by_cases h : b < a
  · rw [if_pos h]
    go_enter Tryd.func29, Tryd.ntmps29
    go_wp2
    go_ret
    exact ⟨rfl, rfl⟩
  · rw [if_neg h]
    go_enter Tryd.func29, Tryd.ntmps29
    go_wp2
    go_ret
    exact ⟨rfl, rfl⟩

theorem specAndOf (a b : Int) (w : World) : Calls Tryd.prog 13 #[.int .i64 a, .int .i64 b] w (Gave (.int .i64 (andT a b)) w) := by
  cases ha : isT a with
  | false =>
    rw [show andT a b = 1 from by simp [andT, ha]]
    have Ha := Lib.hid ha
    clear ha
    go_enter Tryd.func13, Tryd.ntmps13
    go_wp2_with fail
    refine (specIsTruth a _).mono ?_
    rw [Ha.out]
    rintro e w1 ⟨rfl, rfl⟩
    go_wp2
    go_ret
    exact ⟨rfl, rfl⟩
  | true =>
    cases hb : isT b with
    | false =>
      rw [show andT a b = 1 from by simp [andT, hb]]
      have Ha := Lib.hid ha
      have Hb := Lib.hid hb
      clear ha hb
      go_enter Tryd.func13, Tryd.ntmps13
      go_wp2_with fail
      refine (specIsTruth a _).mono ?_
      rw [Ha.out]
      rintro e w1 ⟨rfl, rfl⟩
      go_wp2_with fail
      refine (specIsTruth b _).mono ?_
      rw [Hb.out]
      rintro e w1 ⟨rfl, rfl⟩
      go_wp2
      go_ret
      exact ⟨rfl, rfl⟩
    | true =>
      rw [show andT a b = if a < b then a else b from by simp [andT, ha, hb]]
      have Ha := Lib.hid ha
      have Hb := Lib.hid hb
      generalize hr : (if a < b then a else b) = r
      have Hr := Lib.hid hr
      clear ha hb hr
      go_enter Tryd.func13, Tryd.ntmps13
      go_wp2_with fail
      refine (specIsTruth a _).mono ?_
      rw [Ha.out]
      rintro e w1 ⟨rfl, rfl⟩
      go_wp2_with fail
      refine (specIsTruth b _).mono ?_
      rw [Hb.out]
      rintro e w1 ⟨rfl, rfl⟩
      go_wp2_with fail
      refine (specMin a b _).mono ?_
      rw [Hr.out]
      rintro e w1 ⟨rfl, rfl⟩
      go_wp2
      go_ret
      exact ⟨rfl, rfl⟩

theorem specOrOf (a b : Int) (w : World) : Calls Tryd.prog 15 #[.int .i64 a, .int .i64 b] w (Gave (.int .i64 (orT a b)) w) := by
  cases ha : isT a with
  | false =>
    rw [show orT a b = 1 from by simp [orT, ha]]
    have Ha := Lib.hid ha
    clear ha
    go_enter Tryd.func15, Tryd.ntmps15
    go_wp2_with fail
    refine (specIsTruth a _).mono ?_
    rw [Ha.out]
    rintro e w1 ⟨rfl, rfl⟩
    go_wp2
    go_ret
    exact ⟨rfl, rfl⟩
  | true =>
    cases hb : isT b with
    | false =>
      rw [show orT a b = 1 from by simp [orT, hb]]
      have Ha := Lib.hid ha
      have Hb := Lib.hid hb
      clear ha hb
      go_enter Tryd.func15, Tryd.ntmps15
      go_wp2_with fail
      refine (specIsTruth a _).mono ?_
      rw [Ha.out]
      rintro e w1 ⟨rfl, rfl⟩
      go_wp2_with fail
      refine (specIsTruth b _).mono ?_
      rw [Hb.out]
      rintro e w1 ⟨rfl, rfl⟩
      go_wp2
      go_ret
      exact ⟨rfl, rfl⟩
    | true =>
      rw [show orT a b = if b < a then a else b from by simp [orT, ha, hb]]
      have Ha := Lib.hid ha
      have Hb := Lib.hid hb
      generalize hr : (if b < a then a else b) = r
      have Hr := Lib.hid hr
      clear ha hb hr
      go_enter Tryd.func15, Tryd.ntmps15
      go_wp2_with fail
      refine (specIsTruth a _).mono ?_
      rw [Ha.out]
      rintro e w1 ⟨rfl, rfl⟩
      go_wp2_with fail
      refine (specIsTruth b _).mono ?_
      rw [Hb.out]
      rintro e w1 ⟨rfl, rfl⟩
      go_wp2_with fail
      refine (specMax a b _).mono ?_
      rw [Hr.out]
      rintro e w1 ⟨rfl, rfl⟩
      go_wp2
      go_ret
      exact ⟨rfl, rfl⟩

theorem specJoinOf (a b : Int) (w : World) : Calls Tryd.prog 19 #[.int .i64 a, .int .i64 b] w (Gave (.int .i64 (joinT a b)) w) := by
  by_cases hab : a = b
  · subst hab
    cases ha : isT a with
    | false =>
      rw [show joinT a a = 1 from by simp [joinT, ha]]
      have Ha := Lib.hid ha
      clear ha
      go_enter Tryd.func19, Tryd.ntmps19
      go_wp2_with fail
      refine (specIsTruth a _).mono ?_
      rw [Ha.out]
      rintro e w1 ⟨rfl, rfl⟩
      go_wp2
      go_ret
      exact ⟨rfl, rfl⟩
    | true =>
      rw [show joinT a a = a from by simp [joinT, ha]]
      have Ha := Lib.hid ha
      clear ha
      go_enter Tryd.func19, Tryd.ntmps19
      go_wp2_with fail
      refine (specIsTruth a _).mono ?_
      rw [Ha.out]
      rintro e w1 ⟨rfl, rfl⟩
      go_wp2
      go_ret
      exact ⟨rfl, rfl⟩
  · rw [show joinT a b = 1 from by simp [joinT, hab]]
    have he : (a != b) = true := by simpa using hab
    clear hab
    go_enter Tryd.func19, Tryd.ntmps19
    go_wp2
    go_ret
    exact ⟨rfl, rfl⟩

theorem specIsWithin (a b : Int) (w : World) : Calls Tryd.prog 21 #[.int .i64 a, .int .i64 b] w (Gave (.bool (withinT a b)) w) := by
  cases ha : isT a with
  | false =>
    rw [show withinT a b = false from by simp [withinT, ha]]
    have Ha := Lib.hid ha
    clear ha
    go_enter Tryd.func21, Tryd.ntmps21
    go_wp2_with fail
    refine (specIsTruth a _).mono ?_
    rw [Ha.out]
    rintro e w1 ⟨rfl, rfl⟩
    go_wp2
    go_ret
    exact ⟨rfl, rfl⟩
  | true =>
    cases hb : isT b with
    | false =>
      rw [show withinT a b = false from by simp [withinT, hb]]
      have Ha := Lib.hid ha
      have Hb := Lib.hid hb
      clear ha hb
      go_enter Tryd.func21, Tryd.ntmps21
      go_wp2_with fail
      refine (specIsTruth a _).mono ?_
      rw [Ha.out]
      rintro e w1 ⟨rfl, rfl⟩
      go_wp2_with fail
      refine (specIsTruth b _).mono ?_
      rw [Hb.out]
      rintro e w1 ⟨rfl, rfl⟩
      go_wp2
      go_ret
      exact ⟨rfl, rfl⟩
    | true =>
      rcases isT_three ha with rfl | rfl | rfl <;> rcases isT_three hb with rfl | rfl | rfl
      all_goals
        clear ha hb
        go_enter Tryd.func21, Tryd.ntmps21
        go_wp2_with fail
        refine (specIsTruth _ _).mono ?_
        rintro e w1 ⟨rfl, rfl⟩
        simp only [show isT 0 = true from rfl, show isT 1 = true from rfl, show isT 2 = true from rfl]
        go_wp2_with fail
        refine (specIsTruth _ _).mono ?_
        rintro e w1 ⟨rfl, rfl⟩
        simp only [show isT 0 = true from rfl, show isT 1 = true from rfl, show isT 2 = true from rfl]
        go_wp2
        go_ret
        exact ⟨rfl, rfl⟩

theorem textT_none {a : Int} (h : isT a = false) : textT a = ⟨#[]⟩ := by
  have h1 : ¬ (0 ≤ a ∧ a ≤ 2) := fun hh => by rw [isT_true.2 hh] at h; cases h
  have h2 : a ≠ 0 := by omega
  have h3 : a ≠ 1 := by omega
  have h4 : a ≠ 2 := by omega
  simp [textT, h2, h3, h4]

theorem specTruthText (a : Int) (w : World) : Calls Tryd.prog 23 #[.int .i64 a] w (Gave (.string (textT a)) w) := by
  cases h : isT a with
  | false =>
    rw [textT_none h]
    have H := Lib.hid h
    clear h
    go_enter Tryd.func23, Tryd.ntmps23
    go_wp2_with fail
    refine (specIsTruth a _).mono ?_
    rw [H.out]
    rintro e w1 ⟨rfl, rfl⟩
    go_wp2
    go_ret
    exact ⟨rfl, rfl⟩
  | true =>
    rcases isT_three h with rfl | rfl | rfl
    all_goals
      clear h
      go_enter Tryd.func23, Tryd.ntmps23
      go_wp2_with fail
      refine (specIsTruth _ _).mono ?_
      rintro e w1 ⟨rfl, rfl⟩
      simp only [show isT 0 = true from rfl, show isT 1 = true from rfl, show isT 2 = true from rfl]
      go_wp2
      go_ret
      exact ⟨rfl, rfl⟩
end Go.Proofs.YtbnpfgkcehlfnaaDoor
