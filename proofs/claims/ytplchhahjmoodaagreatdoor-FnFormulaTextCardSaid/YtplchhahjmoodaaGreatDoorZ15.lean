/-
  Several texts of one proof in one file, in the order in which they build.
-/
import Derived.Test.YtplchhahjmoodaaGreatDoorChecked
import Derived.Laws.ResultCell
import Derived.Test.YtplchhahjmoodaaGreatDoorZ02
import Derived.Test.YtplchhahjmoodaaGreatDoorZ05
import Derived.Test.YtplchhahjmoodaaGreatDoorZ14
/-
  Kinds of formulas: which type stands for a kind, and its number of parts; the program's and the model's walks.
-/
namespace Go.Proofs.YtplchhahjmoodaaGreatDoor
open Go Go.RowKit

/-- The type that stands for a kind. -/
def formT (k : Int) : TypeId := if k = 1 then 145 else if k = 2 then 149 else if k = 3 then 150 else if k = 4 then 151 else if k = 5 then 154 else if k = 6 then 155 else if k = 7 then 156 else if k = 8 then 148 else if k = 9 then 114 else if k = 10 then 115 else if k = 11 then 152 else if k = 12 then 153 else 157
/-- The number of parts of a kind. -/
def arityF (k : Int) : Int := if 1 ≤ k ∧ k ≤ 7 then 0 else if k = 8 ∨ k = 11 ∨ k = 12 then 1 else if k = 9 ∨ k = 10 then 2 else -1
abbrev formV (k : Int) : Value := .iface (formT k) (.agg #[])
theorem kind_cases (k : Int) : k = 1 ∨ k = 2 ∨ k = 3 ∨ k = 4 ∨ k = 5 ∨ k = 6 ∨ k = 7 ∨ k = 8 ∨ k = 9 ∨ k = 10 ∨ k = 11 ∨ k = 12 ∨ (k < 1 ∨ 12 < k) := by omega

theorem formT_1 : formT 1 = 145 := rfl
theorem formT_2 : formT 2 = 149 := rfl
theorem formT_3 : formT 3 = 150 := rfl
theorem formT_4 : formT 4 = 151 := rfl
theorem formT_5 : formT 5 = 154 := rfl
theorem formT_6 : formT 6 = 155 := rfl
theorem formT_7 : formT 7 = 156 := rfl
theorem formT_8 : formT 8 = 148 := rfl
theorem formT_9 : formT 9 = 114 := rfl
theorem formT_10 : formT 10 = 115 := rfl
theorem formT_11 : formT 11 = 152 := rfl
theorem formT_12 : formT 12 = 153 := rfl
theorem formT_no {k : Int} (h : k < 1 ∨ 12 < k) : formT k = 157 := by
  unfold formT
  rw [if_neg (by omega), if_neg (by omega), if_neg (by omega), if_neg (by omega), if_neg (by omega), if_neg (by omega), if_neg (by omega), if_neg (by omega), if_neg (by omega), if_neg (by omega), if_neg (by omega), if_neg (by omega)]

set_option maxHeartbeats 800000 in
theorem implFormOf (k : Int) (w : World) : Calls Tryz.prog 77 #[.int .i64 k] w fun e w' => e = .returned (formV k) ∧ w' = w := by
  unfold formV
  rcases kind_cases k with h | h | h | h | h | h | h | h | h | h | h | h | h
  · subst h
    rw [formT_1]
    go_enter Tryz.func77, Tryz.ntmps77
    go_wp2_with fail
    go_ret
    exact ⟨rfl, rfl⟩
  · subst h
    rw [formT_2]
    go_enter Tryz.func77, Tryz.ntmps77
    go_wp2_with fail
    go_ret
    exact ⟨rfl, rfl⟩
  · subst h
    rw [formT_3]
    go_enter Tryz.func77, Tryz.ntmps77
    go_wp2_with fail
    go_ret
    exact ⟨rfl, rfl⟩
  · subst h
    rw [formT_4]
    go_enter Tryz.func77, Tryz.ntmps77
    go_wp2_with fail
    go_ret
    exact ⟨rfl, rfl⟩
  · subst h
    rw [formT_5]
    go_enter Tryz.func77, Tryz.ntmps77
    go_wp2_with fail
    go_ret
    exact ⟨rfl, rfl⟩
  · subst h
    rw [formT_6]
    go_enter Tryz.func77, Tryz.ntmps77
    go_wp2_with fail
    go_ret
    exact ⟨rfl, rfl⟩
  · subst h
    rw [formT_7]
    go_enter Tryz.func77, Tryz.ntmps77
    go_wp2_with fail
    go_ret
    exact ⟨rfl, rfl⟩
  · subst h
    rw [formT_8]
    go_enter Tryz.func77, Tryz.ntmps77
    go_wp2_with fail
    go_ret
    exact ⟨rfl, rfl⟩
  · subst h
    rw [formT_9]
    go_enter Tryz.func77, Tryz.ntmps77
    go_wp2_with fail
    go_ret
    exact ⟨rfl, rfl⟩
  · subst h
    rw [formT_10]
    go_enter Tryz.func77, Tryz.ntmps77
    go_wp2_with fail
    go_ret
    exact ⟨rfl, rfl⟩
  · subst h
    rw [formT_11]
    go_enter Tryz.func77, Tryz.ntmps77
    go_wp2_with fail
    go_ret
    exact ⟨rfl, rfl⟩
  · subst h
    rw [formT_12]
    go_enter Tryz.func77, Tryz.ntmps77
    go_wp2_with fail
    go_ret
    exact ⟨rfl, rfl⟩
  · rw [formT_no h]
    go_enter Tryz.func77, Tryz.ntmps77
    have n1 : (k == 1) = false := beq_eq_false_iff_ne.2 (by omega)
    have n2 : (k == 2) = false := beq_eq_false_iff_ne.2 (by omega)
    have n3 : (k == 3) = false := beq_eq_false_iff_ne.2 (by omega)
    have n4 : (k == 4) = false := beq_eq_false_iff_ne.2 (by omega)
    have n5 : (k == 5) = false := beq_eq_false_iff_ne.2 (by omega)
    have n6 : (k == 6) = false := beq_eq_false_iff_ne.2 (by omega)
    have n7 : (k == 7) = false := beq_eq_false_iff_ne.2 (by omega)
    have n8 : (k == 8) = false := beq_eq_false_iff_ne.2 (by omega)
    have n9 : (k == 9) = false := beq_eq_false_iff_ne.2 (by omega)
    have n10 : (k == 10) = false := beq_eq_false_iff_ne.2 (by omega)
    have n11 : (k == 11) = false := beq_eq_false_iff_ne.2 (by omega)
    have n12 : (k == 12) = false := beq_eq_false_iff_ne.2 (by omega)
    clear h
    go_wp2_with fail
    go_ret
    exact ⟨rfl, rfl⟩

theorem implArity_no (w : World) : Calls Tryz.prog 199 #[.agg #[]] w fun e w' => e = .returned (.int .i64 0) ∧ Below w.heap.size w w' := by
  go_enter Tryz.func199, Tryz.ntmps199
  go_wp2_with fail
  go_ret
  exact ⟨rfl, (Below.refl _ _).alloc (Nat.le_refl _) _⟩
theorem implArity_one (w : World) : Calls Tryz.prog 200 #[.agg #[]] w fun e w' => e = .returned (.int .i64 1) ∧ Below w.heap.size w w' := by
  go_enter Tryz.func200, Tryz.ntmps200
  go_wp2_with fail
  go_ret
  exact ⟨rfl, (Below.refl _ _).alloc (Nat.le_refl _) _⟩
theorem implArity_two (w : World) : Calls Tryz.prog 198 #[.agg #[]] w fun e w' => e = .returned (.int .i64 2) ∧ Below w.heap.size w w' := by
  go_enter Tryz.func198, Tryz.ntmps198
  go_wp2_with fail
  go_ret
  exact ⟨rfl, (Below.refl _ _).alloc (Nat.le_refl _) _⟩
theorem implArity_none (w : World) : Calls Tryz.prog 201 #[.agg #[]] w fun e w' => e = .returned (.int .i64 (-1)) ∧ Below w.heap.size w w' := by
  go_enter Tryz.func201, Tryz.ntmps201
  go_wp2_with fail
  go_ret
  exact ⟨rfl, (Below.refl _ _).alloc (Nat.le_refl _) _⟩

theorem invoke_1 (w : World) : (method 333 145 (.agg #[]) "loop.example/g00590/impl.arity").run Tryz.prog w = .ok (199, .agg #[]) w := by kernel_rfl
theorem invoke_2 (w : World) : (method 333 149 (.agg #[]) "loop.example/g00590/impl.arity").run Tryz.prog w = .ok (199, .agg #[]) w := by kernel_rfl
theorem invoke_3 (w : World) : (method 333 150 (.agg #[]) "loop.example/g00590/impl.arity").run Tryz.prog w = .ok (199, .agg #[]) w := by kernel_rfl
theorem invoke_4 (w : World) : (method 333 151 (.agg #[]) "loop.example/g00590/impl.arity").run Tryz.prog w = .ok (199, .agg #[]) w := by kernel_rfl
theorem invoke_5 (w : World) : (method 333 154 (.agg #[]) "loop.example/g00590/impl.arity").run Tryz.prog w = .ok (199, .agg #[]) w := by kernel_rfl
theorem invoke_6 (w : World) : (method 333 155 (.agg #[]) "loop.example/g00590/impl.arity").run Tryz.prog w = .ok (199, .agg #[]) w := by kernel_rfl
theorem invoke_7 (w : World) : (method 333 156 (.agg #[]) "loop.example/g00590/impl.arity").run Tryz.prog w = .ok (199, .agg #[]) w := by kernel_rfl
theorem invoke_8 (w : World) : (method 333 148 (.agg #[]) "loop.example/g00590/impl.arity").run Tryz.prog w = .ok (200, .agg #[]) w := by kernel_rfl
theorem invoke_9 (w : World) : (method 333 114 (.agg #[]) "loop.example/g00590/impl.arity").run Tryz.prog w = .ok (198, .agg #[]) w := by kernel_rfl
theorem invoke_10 (w : World) : (method 333 115 (.agg #[]) "loop.example/g00590/impl.arity").run Tryz.prog w = .ok (198, .agg #[]) w := by kernel_rfl
theorem invoke_11 (w : World) : (method 333 152 (.agg #[]) "loop.example/g00590/impl.arity").run Tryz.prog w = .ok (200, .agg #[]) w := by kernel_rfl
theorem invoke_12 (w : World) : (method 333 153 (.agg #[]) "loop.example/g00590/impl.arity").run Tryz.prog w = .ok (200, .agg #[]) w := by kernel_rfl
theorem invoke_no (w : World) : (method 333 157 (.agg #[]) "loop.example/g00590/impl.arity").run Tryz.prog w = .ok (201, .agg #[]) w := by kernel_rfl

set_option maxHeartbeats 800000 in
theorem implArityOf (k : Int) (w : World) : Calls Tryz.prog 75 #[.int .i64 k] w fun e w' => e = .returned (.int .i64 (arityF k)) ∧ Below w.heap.size w w' := by
  rcases kind_cases k with h | h | h | h | h | h | h | h | h | h | h | h | h
  · subst h
    have hi := invoke_1
    go_enter Tryz.func75, Tryz.ntmps75
    go_wp2_with fail
    refine (implFormOf _ _).mono ?_
    rintro e w1 ⟨rfl, rfl⟩
    simp only [formV, formT_1]
    go_wp2_with fail
    refine (implArity_no _).mono ?_
    rintro e w2 ⟨rfl, hb⟩
    go_wp2
    go_ret
    exact ⟨rfl, hb⟩
  · subst h
    have hi := invoke_2
    go_enter Tryz.func75, Tryz.ntmps75
    go_wp2_with fail
    refine (implFormOf _ _).mono ?_
    rintro e w1 ⟨rfl, rfl⟩
    simp only [formV, formT_2]
    go_wp2_with fail
    refine (implArity_no _).mono ?_
    rintro e w2 ⟨rfl, hb⟩
    go_wp2
    go_ret
    exact ⟨rfl, hb⟩
  · subst h
    have hi := invoke_3
    go_enter Tryz.func75, Tryz.ntmps75
    go_wp2_with fail
    refine (implFormOf _ _).mono ?_
    rintro e w1 ⟨rfl, rfl⟩
    simp only [formV, formT_3]
    go_wp2_with fail
    refine (implArity_no _).mono ?_
    rintro e w2 ⟨rfl, hb⟩
    go_wp2
    go_ret
    exact ⟨rfl, hb⟩
  · subst h
    have hi := invoke_4
    go_enter Tryz.func75, Tryz.ntmps75
    go_wp2_with fail
    refine (implFormOf _ _).mono ?_
    rintro e w1 ⟨rfl, rfl⟩
    simp only [formV, formT_4]
    go_wp2_with fail
    refine (implArity_no _).mono ?_
    rintro e w2 ⟨rfl, hb⟩
    go_wp2
    go_ret
    exact ⟨rfl, hb⟩
  · subst h
    have hi := invoke_5
    go_enter Tryz.func75, Tryz.ntmps75
    go_wp2_with fail
    refine (implFormOf _ _).mono ?_
    rintro e w1 ⟨rfl, rfl⟩
    simp only [formV, formT_5]
    go_wp2_with fail
    refine (implArity_no _).mono ?_
    rintro e w2 ⟨rfl, hb⟩
    go_wp2
    go_ret
    exact ⟨rfl, hb⟩
  · subst h
    have hi := invoke_6
    go_enter Tryz.func75, Tryz.ntmps75
    go_wp2_with fail
    refine (implFormOf _ _).mono ?_
    rintro e w1 ⟨rfl, rfl⟩
    simp only [formV, formT_6]
    go_wp2_with fail
    refine (implArity_no _).mono ?_
    rintro e w2 ⟨rfl, hb⟩
    go_wp2
    go_ret
    exact ⟨rfl, hb⟩
  · subst h
    have hi := invoke_7
    go_enter Tryz.func75, Tryz.ntmps75
    go_wp2_with fail
    refine (implFormOf _ _).mono ?_
    rintro e w1 ⟨rfl, rfl⟩
    simp only [formV, formT_7]
    go_wp2_with fail
    refine (implArity_no _).mono ?_
    rintro e w2 ⟨rfl, hb⟩
    go_wp2
    go_ret
    exact ⟨rfl, hb⟩
  · subst h
    have hi := invoke_8
    go_enter Tryz.func75, Tryz.ntmps75
    go_wp2_with fail
    refine (implFormOf _ _).mono ?_
    rintro e w1 ⟨rfl, rfl⟩
    simp only [formV, formT_8]
    go_wp2_with fail
    refine (implArity_one _).mono ?_
    rintro e w2 ⟨rfl, hb⟩
    go_wp2
    go_ret
    exact ⟨rfl, hb⟩
  · subst h
    have hi := invoke_9
    go_enter Tryz.func75, Tryz.ntmps75
    go_wp2_with fail
    refine (implFormOf _ _).mono ?_
    rintro e w1 ⟨rfl, rfl⟩
    simp only [formV, formT_9]
    go_wp2_with fail
    refine (implArity_two _).mono ?_
    rintro e w2 ⟨rfl, hb⟩
    go_wp2
    go_ret
    exact ⟨rfl, hb⟩
  · subst h
    have hi := invoke_10
    go_enter Tryz.func75, Tryz.ntmps75
    go_wp2_with fail
    refine (implFormOf _ _).mono ?_
    rintro e w1 ⟨rfl, rfl⟩
    simp only [formV, formT_10]
    go_wp2_with fail
    refine (implArity_two _).mono ?_
    rintro e w2 ⟨rfl, hb⟩
    go_wp2
    go_ret
    exact ⟨rfl, hb⟩
  · subst h
    have hi := invoke_11
    go_enter Tryz.func75, Tryz.ntmps75
    go_wp2_with fail
    refine (implFormOf _ _).mono ?_
    rintro e w1 ⟨rfl, rfl⟩
    simp only [formV, formT_11]
    go_wp2_with fail
    refine (implArity_one _).mono ?_
    rintro e w2 ⟨rfl, hb⟩
    go_wp2
    go_ret
    exact ⟨rfl, hb⟩
  · subst h
    have hi := invoke_12
    go_enter Tryz.func75, Tryz.ntmps75
    go_wp2_with fail
    refine (implFormOf _ _).mono ?_
    rintro e w1 ⟨rfl, rfl⟩
    simp only [formV, formT_12]
    go_wp2_with fail
    refine (implArity_one _).mono ?_
    rintro e w2 ⟨rfl, hb⟩
    go_wp2
    go_ret
    exact ⟨rfl, hb⟩
  · have hi := invoke_no
    have ha : arityF k = -1 := by
      unfold arityF
      rw [if_neg (by omega), if_neg (by omega), if_neg (by omega)]
    rw [ha]
    have hT := formT_no h
    go_enter Tryz.func75, Tryz.ntmps75
    go_wp2_with fail
    refine (implFormOf _ _).mono ?_
    rintro e w1 ⟨rfl, rfl⟩
    simp only [formV, hT]
    clear hT h
    go_wp2_with fail
    refine (implArity_none _).mono ?_
    rintro e w2 ⟨rfl, hb⟩
    go_wp2
    go_ret
    exact ⟨rfl, hb⟩

theorem specInF (x a b : Int) (w : World) : Calls Tryz.prog 56 #[.int .i64 x, .int .i64 a, .int .i64 b] w fun e w' => e = .returned (.bool (decide (a ≤ x) && decide (x ≤ b))) ∧ w' = w := by
  by_cases h : a ≤ x
  · have h1 : decide (a ≤ x) = true := decide_eq_true h
    go_enter Tryz.func56, Tryz.ntmps56
    go_wp2_with fail
    go_ret
    exact ⟨by first | rfl | (rw [h1]; rfl), rfl⟩
  · have h1 : decide (a ≤ x) = false := decide_eq_false h
    go_enter Tryz.func56, Tryz.ntmps56
    go_wp2_with fail
    go_ret
    exact ⟨by first | rfl | (rw [h1]; rfl), rfl⟩

set_option maxHeartbeats 800000 in
theorem specArityOf (k : Int) (w : World) : Calls Tryz.prog 111 #[.int .i64 k] w fun e w' => e = .returned (.int .i64 (arityF k)) ∧ w' = w := by
  rcases kind_cases k with h | h | h | h | h | h | h | h | h | h | h | h | h
  · subst h
    go_enter Tryz.func111, Tryz.ntmps111
    go_wp2_with fail
    refine (specInF _ _ _ _).mono ?_
    rintro e w1 ⟨rfl, rfl⟩
    go_wp2_with fail
    go_ret
    exact ⟨rfl, rfl⟩
  · subst h
    go_enter Tryz.func111, Tryz.ntmps111
    go_wp2_with fail
    refine (specInF _ _ _ _).mono ?_
    rintro e w1 ⟨rfl, rfl⟩
    go_wp2_with fail
    go_ret
    exact ⟨rfl, rfl⟩
  · subst h
    go_enter Tryz.func111, Tryz.ntmps111
    go_wp2_with fail
    refine (specInF _ _ _ _).mono ?_
    rintro e w1 ⟨rfl, rfl⟩
    go_wp2_with fail
    go_ret
    exact ⟨rfl, rfl⟩
  · subst h
    go_enter Tryz.func111, Tryz.ntmps111
    go_wp2_with fail
    refine (specInF _ _ _ _).mono ?_
    rintro e w1 ⟨rfl, rfl⟩
    go_wp2_with fail
    go_ret
    exact ⟨rfl, rfl⟩
  · subst h
    go_enter Tryz.func111, Tryz.ntmps111
    go_wp2_with fail
    refine (specInF _ _ _ _).mono ?_
    rintro e w1 ⟨rfl, rfl⟩
    go_wp2_with fail
    go_ret
    exact ⟨rfl, rfl⟩
  · subst h
    go_enter Tryz.func111, Tryz.ntmps111
    go_wp2_with fail
    refine (specInF _ _ _ _).mono ?_
    rintro e w1 ⟨rfl, rfl⟩
    go_wp2_with fail
    go_ret
    exact ⟨rfl, rfl⟩
  · subst h
    go_enter Tryz.func111, Tryz.ntmps111
    go_wp2_with fail
    refine (specInF _ _ _ _).mono ?_
    rintro e w1 ⟨rfl, rfl⟩
    go_wp2_with fail
    go_ret
    exact ⟨rfl, rfl⟩
  · subst h
    go_enter Tryz.func111, Tryz.ntmps111
    go_wp2_with fail
    refine (specInF _ _ _ _).mono ?_
    rintro e w1 ⟨rfl, rfl⟩
    go_wp2_with fail
    go_ret
    exact ⟨rfl, rfl⟩
  · subst h
    go_enter Tryz.func111, Tryz.ntmps111
    go_wp2_with fail
    refine (specInF _ _ _ _).mono ?_
    rintro e w1 ⟨rfl, rfl⟩
    go_wp2_with fail
    go_ret
    exact ⟨rfl, rfl⟩
  · subst h
    go_enter Tryz.func111, Tryz.ntmps111
    go_wp2_with fail
    refine (specInF _ _ _ _).mono ?_
    rintro e w1 ⟨rfl, rfl⟩
    go_wp2_with fail
    go_ret
    exact ⟨rfl, rfl⟩
  · subst h
    go_enter Tryz.func111, Tryz.ntmps111
    go_wp2_with fail
    refine (specInF _ _ _ _).mono ?_
    rintro e w1 ⟨rfl, rfl⟩
    go_wp2_with fail
    go_ret
    exact ⟨rfl, rfl⟩
  · subst h
    go_enter Tryz.func111, Tryz.ntmps111
    go_wp2_with fail
    refine (specInF _ _ _ _).mono ?_
    rintro e w1 ⟨rfl, rfl⟩
    go_wp2_with fail
    go_ret
    exact ⟨rfl, rfl⟩
  · have hin : (decide (1 ≤ k) && decide (k ≤ 7)) = false := by
      rcases h with h | h
      · rw [decide_eq_false (by omega : ¬ 1 ≤ k)]; rfl
      · rw [decide_eq_false (by omega : ¬ k ≤ 7)]; simp
    have ha : arityF k = -1 := by
      unfold arityF
      rw [if_neg (by omega), if_neg (by omega), if_neg (by omega)]
    rw [ha]
    have n8 : (k == 8) = false := beq_eq_false_iff_ne.2 (by omega)
    have n9 : (k == 9) = false := beq_eq_false_iff_ne.2 (by omega)
    have n10 : (k == 10) = false := beq_eq_false_iff_ne.2 (by omega)
    have n11 : (k == 11) = false := beq_eq_false_iff_ne.2 (by omega)
    have n12 : (k == 12) = false := beq_eq_false_iff_ne.2 (by omega)
    clear h
    go_enter Tryz.func111, Tryz.ntmps111
    go_wp2_with fail
    refine (specInF _ _ _ _).mono ?_
    rintro e w1 ⟨rfl, rfl⟩
    rw [hin]
    go_wp2_with fail
    go_ret
    exact ⟨rfl, rfl⟩
end Go.Proofs.YtplchhahjmoodaaGreatDoor
/-
  Which formulas are formulas; the model's walks: numbers of logic variables, what is left of an allowance, the form of each node, all three together.
-/
namespace Go.Proofs.YtplchhahjmoodaaGreatDoor
open Go Go.RowKit

/-- The number of logic variables that a kind uses. -/
def usesF (k : Int) : Int := if k = 2 ∨ k = 3 ∨ k = 4 ∨ k = 11 ∨ k = 12 then 1 else if k = 5 ∨ k = 6 ∨ k = 7 then 2 else 0
/-- The fields that a kind uses are valid, the others zero. -/
def fieldsB (vars kd k u v : Int) : Bool :=
  if kd = 1 ∨ kd = 8 ∨ kd = 9 ∨ kd = 10 then decide (k = 0 ∧ u = 0 ∧ v = 0) else
  if kd = 2 ∨ kd = 3 then decide (0 ≤ k ∧ k < vars ∧ 0 ≤ u ∧ u < 4 ∧ v = 0) else
  if kd = 4 ∨ kd = 11 ∨ kd = 12 then decide (k = 0 ∧ 0 ≤ u ∧ u < 4 ∧ v = 0) else
  if kd = 5 ∨ kd = 6 ∨ kd = 7 then decide (k = 0 ∧ 0 ≤ u ∧ u < 4 ∧ 0 ≤ v ∧ v < 4) else false
def nodeB (vars kd k u v : Int) (n : Nat) : Bool := decide ((n : Int) = arityF kd) && fieldsB vars kd k u v
mutual
def Fm.formB (vars : Int) : Fm → Bool
  | .mk kd k u v pp => nodeB vars kd k u v pp.length && Fm.formsB vars pp
def Fm.formsB (vars : Int) : List Fm → Bool
  | [] => true
  | t :: ts => t.formB vars && Fm.formsB vars ts
end
theorem Fm.formsB_all (vars : Int) : ∀ ts : List Fm, Fm.formsB vars ts = ts.all (Fm.formB vars)
  | [] => rfl
  | t :: ts => by rw [Fm.formsB, Fm.formsB_all vars ts, List.all_cons]
theorem Fm.formB_eq (vars : Int) (t : Fm) : t.formB vars = (nodeB vars t.kd t.k t.u t.v t.args.length && t.args.all (Fm.formB vars)) := by
  cases t
  rw [Fm.formB, Fm.formsB_all]
  rfl
theorem nodeB_iff (vars kd k u v : Int) (n : Nat) : nodeB vars kd k u v n = true ↔ (usesF kd < 1 → u = 0) ∧ (usesF kd < 2 → v = 0) ∧ (¬ (kd = 2 ∨ kd = 3) → k = 0) ∧ (kd = 2 ∨ kd = 3 → 0 ≤ k ∧ k < vars) ∧ (0 ≤ u ∧ u ≤ 3) ∧ (0 ≤ v ∧ v ≤ 3) ∧ (n : Int) = arityF kd := by
  unfold nodeB fieldsB usesF
  rcases kind_cases kd with h | h | h | h | h | h | h | h | h | h | h | h | h
  all_goals first
    | (subst h; simp [arityF]; omega)
    | skip
  have ha : arityF kd = -1 := by
    unfold arityF
    rw [if_neg (by omega), if_neg (by omega), if_neg (by omega)]
  rw [ha]
  have : ¬ (n : Int) = -1 := by omega
  simp [this]

set_option maxHeartbeats 800000 in
theorem specUses (k : Int) (w : World) : Calls Tryz.prog 110 #[.int .i64 k] w fun e w' => e = .returned (.int .i64 (usesF k)) ∧ w' = w := by
  rcases kind_cases k with h | h | h | h | h | h | h | h | h | h | h | h | h
  all_goals first
    | (subst h
       go_enter Tryz.func110, Tryz.ntmps110
       go_wp2_with fail
       go_ret
       exact ⟨rfl, rfl⟩)
    | skip
  have hu : usesF k = 0 := by
    unfold usesF
    rw [if_neg (by omega), if_neg (by omega)]
  rw [hu]
  have n2 : (k == 2) = false := beq_eq_false_iff_ne.2 (by omega)
  have n3 : (k == 3) = false := beq_eq_false_iff_ne.2 (by omega)
  have n4 : (k == 4) = false := beq_eq_false_iff_ne.2 (by omega)
  have n5 : (k == 5) = false := beq_eq_false_iff_ne.2 (by omega)
  have n6 : (k == 6) = false := beq_eq_false_iff_ne.2 (by omega)
  have n7 : (k == 7) = false := beq_eq_false_iff_ne.2 (by omega)
  have n11 : (k == 11) = false := beq_eq_false_iff_ne.2 (by omega)
  have n12 : (k == 12) = false := beq_eq_false_iff_ne.2 (by omega)
  clear h hu
  go_enter Tryz.func110, Tryz.ntmps110
  go_wp2_with fail
  go_ret
  exact ⟨rfl, rfl⟩

/-- What is left of an allowance. -/
def leftOf (s left : Nat) : Int := if s ≤ left then (left : Int) - s else -1
set_option maxHeartbeats 800000 in
theorem specLeft : ∀ x : Ft, ∀ (left : Nat) (w : World), left ≤ 1099511627776 → x.args.length ≤ maxLen → x.Short → x.In w w.heap.size → Calls Tryz.prog 83 #[x.val, .int .i64 left] w (GaveB (.int .i64 (leftOf x.er.size left)) w) := by
  apply Ft.ind
  intro x ih left w hl hlen hs hin
  unfold maxLen at hlen
  have hs' := (Ft.short_iff x).1 hs
  have hz := x.size_er
  have hsum : ∀ k, Fm.sizes ((x.args.take k).map Ft.er) ≤ Fm.sizes (x.args.map Ft.er) := fun k => Ft.sizes_le x.args k
  have HSUM := Lib.hid hsum
  have IH := Lib.hid (fun (k : Nat) (hk : k < x.args.length) (l : Nat) (W : World) (hl : l ≤ 1099511627776) (hb : Below w.heap.size w W) => ih x.args[k] (List.getElem_mem hk) l W hl ((Ft.short_iff _).1 (hs'.2 _ (List.getElem_mem hk))).1 (hs'.2 _ (List.getElem_mem hk)) ((hin.part (List.getElem_mem hk)).to hb))
  have HROW := Lib.hid hin.row
  have HZ := Lib.hid hz
  clear ih hin hz hs hs' hsum
  obtain ⟨res, hres⟩ : ∃ r, leftOf x.er.size left = r := ⟨_, rfl⟩
  rw [hres]
  have HRES := Lib.hid hres
  clear hres
  go_enter Tryz.func83, Tryz.ntmps83
  go_wp2_with fail
  go_loopw [1, 5] (fun n i wr => ∃ (k : Nat) (l : Int), k ≤ x.args.length ∧ i = .int .i64 k ∧ n = .int .i64 l ∧ -1 ≤ l ∧ l ≤ (left : Int) ∧ (0 ≤ l → l + Fm.sizes ((x.args.take k).map Ft.er) + 1 = left) ∧ (l < 0 → left < Fm.sizes ((x.args.take k).map Ft.er) + 1) ∧ Below (w.heap.size + 1) (w.alloc (.cells #[.int .i64 x.kd, .int .i64 x.k, .int .i64 x.u, .int .i64 x.v, .slice x.a x.args.length x.cap] 27)) wr) (fun _ i _ => x.args.length - (intOf i).toNat)
  case atStart => exact ⟨0, (left : Int) - 1, Nat.zero_le _, rfl, by go_num, by omega, by omega, fun _ => by simp [Fm.sizes], fun _ => by simp [Fm.sizes]; omega, Below.refl _ _⟩
  case round =>
    obtain ⟨k, l, hk, rfl, rfl, hl1, hl2, hl3, hl4, hb0⟩ := hrel
    have hb : Below w.heap.size w wr := ((Below.refl _ _).alloc (Nat.le_refl _) _).trans (hb0.mono (Nat.le_succ _))
    have e4 : wr.cell? ⟨w.heap.size, 4, none⟩ = some (.slice x.a x.args.length x.cap) := by
      rw [hb0.cell (p := ⟨w.heap.size, 4, none⟩) (Nat.lt_succ_self _)]
      simp [go_sem]
    have hs1 : w.heap.size + 1 ≤ wr.heap.size := by have := hb0.size; simpa using this
    have H3 := Lib.hid hl3
    have H4 := Lib.hid hl4
    clear hl3 hl4
    by_cases hlt : k < x.args.length
    · have hdk : decide ((k : Int) < (x.args.length : Int)) = true := decide_eq_true (by omega)
      by_cases hneg : l < 0
      · have hneg' : decide (0 ≤ l) = false := decide_eq_false (by omega)
        go_wp2_with fail
        go_ret
        refine ⟨congrArg (fun n : Int => Ending.returned (.int .i64 n)) ?_, hb⟩
        have h1 := HRES.out
        have h2 := H4.out hneg
        have h3 := HSUM.out k
        have h4 := HZ.out
        rw [← h1, leftOf, if_neg (by omega)]
        omega
      · obtain ⟨l', rfl⟩ : ∃ l' : Nat, l = (l' : Int) := ⟨l.toNat, by omega⟩
        have hneg' : decide (0 ≤ (l' : Int)) = true := decide_eq_true (by omega)
        obtain ⟨b, o, ha, hbW, hE0⟩ := HROW.out.node k hlt
        obtain ⟨c0, c1, c2, c3, c4⟩ := hE0.below hb hbW
        rw [ha] at e4
        have HI := Lib.hid (IH.out k hlt)
        have HNX := Lib.hid (Ft.sizes_take x.args k hlt)
        generalize x.args[k] = y at *
        have HHA := Lib.hid ha
        have hl'' : l' ≤ 1099511627776 := by omega
        clear hE0 ha
        go_wp2_with fail
        refine (HI.out l' _ hl'' hb).mono ?_
        rintro e w1 ⟨rfl, hb1⟩
        have hB := hb0.trans (hb1.mono hs1)
        obtain ⟨r, hr⟩ : ∃ r, leftOf y.er.size l' = r := ⟨_, rfl⟩
        rw [hr]
        have HR := Lib.hid hr
        clear hr
        go_wp2_with fail
        go_roundw
        case rel =>
          have h1 := HR.out
          have h2 := H3.out (by omega)
          have h3 := HNX.out
          have h5 := y.er.size_pos
          unfold leftOf at h1
          refine ⟨k + 1, r, by omega, by go_num, rfl, ?_, ?_, fun h => ?_, fun h => ?_, hB⟩
          all_goals split at h1 <;> omega
        case measure => simp [intOf]; omega
    · obtain rfl : k = x.args.length := by omega
      have hdk : decide ((x.args.length : Int) < (x.args.length : Int)) = false := decide_eq_false (by omega)
      go_wp2_with fail
      go_ret
      refine ⟨congrArg (fun n : Int => Ending.returned (.int .i64 n)) ?_, hb⟩
      have h1 := HRES.out
      have h2 := H3.out
      have h3 := H4.out
      have h4 := HZ.out
      rw [List.take_length] at h2 h3
      rw [← h1, leftOf]
      split <;> omega
end Go.Proofs.YtplchhahjmoodaaGreatDoor
