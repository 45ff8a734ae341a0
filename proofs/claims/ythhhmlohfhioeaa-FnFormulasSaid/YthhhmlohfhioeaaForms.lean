/-
  Kinds of formulas: which type stands for a kind, and its number of parts; the program's and the model's walks.
-/
import Derived.Test.YthhhmlohfhioeaaWords
import Derived.Test.YthhhmlohfhioeaaChecked
import Derived.Laws.ResultCell
import Derived.Test.YthhhmlohfhioeaaNums
namespace Go.Proofs.Ythhhmlohfhioeaa
open Go Go.RowKit

/-- The type that stands for a kind. -/
def formT (k : Int) : TypeId := if k = 1 then 100 else if k = 2 then 108 else if k = 3 then 109 else if k = 4 then 110 else if k = 5 then 113 else if k = 6 then 114 else if k = 7 then 115 else if k = 8 then 103 else if k = 9 then 106 else if k = 10 then 107 else if k = 11 then 111 else if k = 12 then 112 else 120
/-- The number of parts of a kind. -/
def arityF (k : Int) : Int := if 1 ≤ k ∧ k ≤ 7 then 0 else if k = 8 ∨ k = 11 ∨ k = 12 then 1 else if k = 9 ∨ k = 10 then 2 else -1
abbrev formV (k : Int) : Value := .iface (formT k) (.agg #[])
theorem kind_cases (k : Int) : k = 1 ∨ k = 2 ∨ k = 3 ∨ k = 4 ∨ k = 5 ∨ k = 6 ∨ k = 7 ∨ k = 8 ∨ k = 9 ∨ k = 10 ∨ k = 11 ∨ k = 12 ∨ (k < 1 ∨ 12 < k) := by omega

theorem formT_1 : formT 1 = 100 := rfl
theorem formT_2 : formT 2 = 108 := rfl
theorem formT_3 : formT 3 = 109 := rfl
theorem formT_4 : formT 4 = 110 := rfl
theorem formT_5 : formT 5 = 113 := rfl
theorem formT_6 : formT 6 = 114 := rfl
theorem formT_7 : formT 7 = 115 := rfl
theorem formT_8 : formT 8 = 103 := rfl
theorem formT_9 : formT 9 = 106 := rfl
theorem formT_10 : formT 10 = 107 := rfl
theorem formT_11 : formT 11 = 111 := rfl
theorem formT_12 : formT 12 = 112 := rfl
theorem formT_no {k : Int} (h : k < 1 ∨ 12 < k) : formT k = 120 := by
  unfold formT
  rw [if_neg (by omega), if_neg (by omega), if_neg (by omega), if_neg (by omega), if_neg (by omega), if_neg (by omega), if_neg (by omega), if_neg (by omega), if_neg (by omega), if_neg (by omega), if_neg (by omega), if_neg (by omega)]

set_option maxHeartbeats 800000 in
theorem implFormOf (k : Int) (w : World) : Calls Try.prog 50 #[.int .i64 k] w fun e w' => e = .returned (formV k) ∧ w' = w := by
  unfold formV
  rcases kind_cases k with h | h | h | h | h | h | h | h | h | h | h | h | h
  · subst h
    rw [formT_1]
    go_enter Try.func50, Try.ntmps50
    go_wp2_with fail
    go_ret
    exact ⟨rfl, rfl⟩
  · subst h
    rw [formT_2]
    go_enter Try.func50, Try.ntmps50
    go_wp2_with fail
    go_ret
    exact ⟨rfl, rfl⟩
  · subst h
    rw [formT_3]
    go_enter Try.func50, Try.ntmps50
    go_wp2_with fail
    go_ret
    exact ⟨rfl, rfl⟩
  · subst h
    rw [formT_4]
    go_enter Try.func50, Try.ntmps50
    go_wp2_with fail
    go_ret
    exact ⟨rfl, rfl⟩
  · subst h
    rw [formT_5]
    go_enter Try.func50, Try.ntmps50
    go_wp2_with fail
    go_ret
    exact ⟨rfl, rfl⟩
  · subst h
    rw [formT_6]
    go_enter Try.func50, Try.ntmps50
    go_wp2_with fail
    go_ret
    exact ⟨rfl, rfl⟩
  · subst h
    rw [formT_7]
    go_enter Try.func50, Try.ntmps50
    go_wp2_with fail
    go_ret
    exact ⟨rfl, rfl⟩
  · subst h
    rw [formT_8]
    go_enter Try.func50, Try.ntmps50
    go_wp2_with fail
    go_ret
    exact ⟨rfl, rfl⟩
  · subst h
    rw [formT_9]
    go_enter Try.func50, Try.ntmps50
    go_wp2_with fail
    go_ret
    exact ⟨rfl, rfl⟩
  · subst h
    rw [formT_10]
    go_enter Try.func50, Try.ntmps50
    go_wp2_with fail
    go_ret
    exact ⟨rfl, rfl⟩
  · subst h
    rw [formT_11]
    go_enter Try.func50, Try.ntmps50
    go_wp2_with fail
    go_ret
    exact ⟨rfl, rfl⟩
  · subst h
    rw [formT_12]
    go_enter Try.func50, Try.ntmps50
    go_wp2_with fail
    go_ret
    exact ⟨rfl, rfl⟩
  · rw [formT_no h]
    go_enter Try.func50, Try.ntmps50
    have n1 : (k == 1) = false := beq_eq_false_iff_ne.2 (by omega)
    have n2 : (k == 2) = false := beq_eq_false_iff_ne.2 (by omega)
    have n3 : (k == 3) = false := beq_eq_false_iff_ne.2 (by omega)
    have n4 : (k == 4) = false := beq_eq_false_iff_ne.2 (by omega)
    have n5 : (k == 5) = false := beq_eq_false_iff_ne.2 (by omega)
    have n6 : (k == 6) = false := beq_eq_false_iff_ne.2 (by omega)
    have n7 : (k == 7) = false := beq_eq_false_iff_ne.2 (by omega)
    have n8 : (k == 8) = false := beq_eq_false_iff_ne.2 (by omega)
    have n9 : (k == 9) = false := beq_eq_false_iff_ne.2 (by omega)
    have n10 : (k == 10) = false := beq_eq_false_iff_ne.2 (by omega)
    have n11 : (k == 11) = false := beq_eq_false_iff_ne.2 (by omega)
    have n12 : (k == 12) = false := beq_eq_false_iff_ne.2 (by omega)
    clear h
    go_wp2_with fail
    go_ret
    exact ⟨rfl, rfl⟩

theorem implArity_no (w : World) : Calls Try.prog 80 #[.agg #[]] w fun e w' => e = .returned (.int .i64 0) ∧ Below w.heap.size w w' := by
  go_enter Try.func80, Try.ntmps80
  go_wp2_with fail
  go_ret
  exact ⟨rfl, (Below.refl _ _).alloc (Nat.le_refl _) _⟩
theorem implArity_one (w : World) : Calls Try.prog 81 #[.agg #[]] w fun e w' => e = .returned (.int .i64 1) ∧ Below w.heap.size w w' := by
  go_enter Try.func81, Try.ntmps81
  go_wp2_with fail
  go_ret
  exact ⟨rfl, (Below.refl _ _).alloc (Nat.le_refl _) _⟩
theorem implArity_two (w : World) : Calls Try.prog 82 #[.agg #[]] w fun e w' => e = .returned (.int .i64 2) ∧ Below w.heap.size w w' := by
  go_enter Try.func82, Try.ntmps82
  go_wp2_with fail
  go_ret
  exact ⟨rfl, (Below.refl _ _).alloc (Nat.le_refl _) _⟩
theorem implArity_none (w : World) : Calls Try.prog 83 #[.agg #[]] w fun e w' => e = .returned (.int .i64 (-1)) ∧ Below w.heap.size w w' := by
  go_enter Try.func83, Try.ntmps83
  go_wp2_with fail
  go_ret
  exact ⟨rfl, (Below.refl _ _).alloc (Nat.le_refl _) _⟩

theorem invoke_1 (w : World) : (method 239 100 (.agg #[]) "loop.example/g00590/impl.arity").run Try.prog w = .ok (80, .agg #[]) w := by kernel_rfl
theorem invoke_2 (w : World) : (method 239 108 (.agg #[]) "loop.example/g00590/impl.arity").run Try.prog w = .ok (80, .agg #[]) w := by kernel_rfl
theorem invoke_3 (w : World) : (method 239 109 (.agg #[]) "loop.example/g00590/impl.arity").run Try.prog w = .ok (80, .agg #[]) w := by kernel_rfl
theorem invoke_4 (w : World) : (method 239 110 (.agg #[]) "loop.example/g00590/impl.arity").run Try.prog w = .ok (80, .agg #[]) w := by kernel_rfl
theorem invoke_5 (w : World) : (method 239 113 (.agg #[]) "loop.example/g00590/impl.arity").run Try.prog w = .ok (80, .agg #[]) w := by kernel_rfl
theorem invoke_6 (w : World) : (method 239 114 (.agg #[]) "loop.example/g00590/impl.arity").run Try.prog w = .ok (80, .agg #[]) w := by kernel_rfl
theorem invoke_7 (w : World) : (method 239 115 (.agg #[]) "loop.example/g00590/impl.arity").run Try.prog w = .ok (80, .agg #[]) w := by kernel_rfl
theorem invoke_8 (w : World) : (method 239 103 (.agg #[]) "loop.example/g00590/impl.arity").run Try.prog w = .ok (81, .agg #[]) w := by kernel_rfl
theorem invoke_9 (w : World) : (method 239 106 (.agg #[]) "loop.example/g00590/impl.arity").run Try.prog w = .ok (82, .agg #[]) w := by kernel_rfl
theorem invoke_10 (w : World) : (method 239 107 (.agg #[]) "loop.example/g00590/impl.arity").run Try.prog w = .ok (82, .agg #[]) w := by kernel_rfl
theorem invoke_11 (w : World) : (method 239 111 (.agg #[]) "loop.example/g00590/impl.arity").run Try.prog w = .ok (81, .agg #[]) w := by kernel_rfl
theorem invoke_12 (w : World) : (method 239 112 (.agg #[]) "loop.example/g00590/impl.arity").run Try.prog w = .ok (81, .agg #[]) w := by kernel_rfl
theorem invoke_no (w : World) : (method 239 120 (.agg #[]) "loop.example/g00590/impl.arity").run Try.prog w = .ok (83, .agg #[]) w := by kernel_rfl

set_option maxHeartbeats 800000 in
theorem implArityOf (k : Int) (w : World) : Calls Try.prog 19 #[.int .i64 k] w fun e w' => e = .returned (.int .i64 (arityF k)) ∧ Below w.heap.size w w' := by
  rcases kind_cases k with h | h | h | h | h | h | h | h | h | h | h | h | h
  · subst h
    have hi := invoke_1
    go_enter Try.func19, Try.ntmps19
    go_wp2_with fail
    refine (implFormOf _ _).mono ?_
    rintro e w1 ⟨rfl, rfl⟩
    simp only [formV, formT_1]
    go_wp2_with fail
    refine (implArity_no _).mono ?_
    rintro e w2 ⟨rfl, hb⟩
    go_wp2
    go_ret
    exact ⟨rfl, hb⟩
  · subst h
    have hi := invoke_2
    go_enter Try.func19, Try.ntmps19
    go_wp2_with fail
    refine (implFormOf _ _).mono ?_
    rintro e w1 ⟨rfl, rfl⟩
    simp only [formV, formT_2]
    go_wp2_with fail
    refine (implArity_no _).mono ?_
    rintro e w2 ⟨rfl, hb⟩
    go_wp2
    go_ret
    exact ⟨rfl, hb⟩
  · subst h
    have hi := invoke_3
    go_enter Try.func19, Try.ntmps19
    go_wp2_with fail
    refine (implFormOf _ _).mono ?_
    rintro e w1 ⟨rfl, rfl⟩
    simp only [formV, formT_3]
    go_wp2_with fail
    refine (implArity_no _).mono ?_
    rintro e w2 ⟨rfl, hb⟩
    go_wp2
    go_ret
    exact ⟨rfl, hb⟩
  · subst h
    have hi := invoke_4
    go_enter Try.func19, Try.ntmps19
    go_wp2_with fail
    refine (implFormOf _ _).mono ?_
    rintro e w1 ⟨rfl, rfl⟩
    simp only [formV, formT_4]
    go_wp2_with fail
    refine (implArity_no _).mono ?_
    rintro e w2 ⟨rfl, hb⟩
    go_wp2
    go_ret
    exact ⟨rfl, hb⟩
  · subst h
    have hi := invoke_5
    go_enter Try.func19, Try.ntmps19
    go_wp2_with fail
    refine (implFormOf _ _).mono ?_
    rintro e w1 ⟨rfl, rfl⟩
    simp only [formV, formT_5]
    go_wp2_with fail
    refine (implArity_no _).mono ?_
    rintro e w2 ⟨rfl, hb⟩
    go_wp2
    go_ret
    exact ⟨rfl, hb⟩
  · subst h
    have hi := invoke_6
    go_enter Try.func19, Try.ntmps19
    go_wp2_with fail
    refine (implFormOf _ _).mono ?_
    rintro e w1 ⟨rfl, rfl⟩
    simp only [formV, formT_6]
    go_wp2_with fail
    refine (implArity_no _).mono ?_
    rintro e w2 ⟨rfl, hb⟩
    go_wp2
    go_ret
    exact ⟨rfl, hb⟩
  · subst h
    have hi := invoke_7
    go_enter Try.func19, Try.ntmps19
    go_wp2_with fail
    refine (implFormOf _ _).mono ?_
    rintro e w1 ⟨rfl, rfl⟩
    simp only [formV, formT_7]
    go_wp2_with fail
    refine (implArity_no _).mono ?_
    rintro e w2 ⟨rfl, hb⟩
    go_wp2
    go_ret
    exact ⟨rfl, hb⟩
  · subst h
    have hi := invoke_8
    go_enter Try.func19, Try.ntmps19
    go_wp2_with fail
    refine (implFormOf _ _).mono ?_
    rintro e w1 ⟨rfl, rfl⟩
    simp only [formV, formT_8]
    go_wp2_with fail
    refine (implArity_one _).mono ?_
    rintro e w2 ⟨rfl, hb⟩
    go_wp2
    go_ret
    exact ⟨rfl, hb⟩
  · subst h
    have hi := invoke_9
    go_enter Try.func19, Try.ntmps19
    go_wp2_with fail
    refine (implFormOf _ _).mono ?_
    rintro e w1 ⟨rfl, rfl⟩
    simp only [formV, formT_9]
    go_wp2_with fail
    refine (implArity_two _).mono ?_
    rintro e w2 ⟨rfl, hb⟩
    go_wp2
    go_ret
    exact ⟨rfl, hb⟩
  · subst h
    have hi := invoke_10
    go_enter Try.func19, Try.ntmps19
    go_wp2_with fail
    refine (implFormOf _ _).mono ?_
    rintro e w1 ⟨rfl, rfl⟩
    simp only [formV, formT_10]
    go_wp2_with fail
    refine (implArity_two _).mono ?_
    rintro e w2 ⟨rfl, hb⟩
    go_wp2
    go_ret
    exact ⟨rfl, hb⟩
  · subst h
    have hi := invoke_11
    go_enter Try.func19, Try.ntmps19
    go_wp2_with fail
    refine (implFormOf _ _).mono ?_
    rintro e w1 ⟨rfl, rfl⟩
    simp only [formV, formT_11]
    go_wp2_with fail
    refine (implArity_one _).mono ?_
    rintro e w2 ⟨rfl, hb⟩
    go_wp2
    go_ret
    exact ⟨rfl, hb⟩
  · subst h
    have hi := invoke_12
    go_enter Try.func19, Try.ntmps19
    go_wp2_with fail
    refine (implFormOf _ _).mono ?_
    rintro e w1 ⟨rfl, rfl⟩
    simp only [formV, formT_12]
    go_wp2_with fail
    refine (implArity_one _).mono ?_
    rintro e w2 ⟨rfl, hb⟩
    go_wp2
    go_ret
    exact ⟨rfl, hb⟩
  · have hi := invoke_no
    have ha : arityF k = -1 := by
      unfold arityF
      rw [if_neg (by omega), if_neg (by omega), if_neg (by omega)]
    rw [ha]
    have hT := formT_no h
    go_enter Try.func19, Try.ntmps19
    go_wp2_with fail
    refine (implFormOf _ _).mono ?_
    rintro e w1 ⟨rfl, rfl⟩
    simp only [formV, hT]
    clear hT h
    go_wp2_with fail
    refine (implArity_none _).mono ?_
    rintro e w2 ⟨rfl, hb⟩
    go_wp2
    go_ret
    exact ⟨rfl, hb⟩

theorem specInF (x a b : Int) (w : World) : Calls Try.prog 51 #[.int .i64 x, .int .i64 a, .int .i64 b] w fun e w' => e = .returned (.bool (decide (a ≤ x) && decide (x ≤ b))) ∧ w' = w := by
  by_cases h : a ≤ x
  · have h1 : decide (a ≤ x) = true := decide_eq_true h
    go_enter Try.func51, Try.ntmps51
    go_wp2_with fail
    go_ret
    exact ⟨by first | rfl | (rw [h1]; rfl), rfl⟩
  · have h1 : decide (a ≤ x) = false := decide_eq_false h
    go_enter Try.func51, Try.ntmps51
    go_wp2_with fail
    go_ret
    exact ⟨by first | rfl | (rw [h1]; rfl), rfl⟩

set_option maxHeartbeats 800000 in
theorem specArityOf (k : Int) (w : World) : Calls Try.prog 20 #[.int .i64 k] w fun e w' => e = .returned (.int .i64 (arityF k)) ∧ w' = w := by
  rcases kind_cases k with h | h | h | h | h | h | h | h | h | h | h | h | h
  · subst h
    go_enter Try.func20, Try.ntmps20
    go_wp2_with fail
    refine (specInF _ _ _ _).mono ?_
    rintro e w1 ⟨rfl, rfl⟩
    go_wp2_with fail
    go_ret
    exact ⟨rfl, rfl⟩
  · subst h
    go_enter Try.func20, Try.ntmps20
    go_wp2_with fail
    refine (specInF _ _ _ _).mono ?_
    rintro e w1 ⟨rfl, rfl⟩
    go_wp2_with fail
    go_ret
    exact ⟨rfl, rfl⟩
  · subst h
    go_enter Try.func20, Try.ntmps20
    go_wp2_with fail
    refine (specInF _ _ _ _).mono ?_
    rintro e w1 ⟨rfl, rfl⟩
    go_wp2_with fail
    go_ret
    exact ⟨rfl, rfl⟩
  · subst h
    go_enter Try.func20, Try.ntmps20
    go_wp2_with fail
    refine (specInF _ _ _ _).mono ?_
    rintro e w1 ⟨rfl, rfl⟩
    go_wp2_with fail
    go_ret
    exact ⟨rfl, rfl⟩
  · subst h
    go_enter Try.func20, Try.ntmps20
    go_wp2_with fail
    refine (specInF _ _ _ _).mono ?_
    rintro e w1 ⟨rfl, rfl⟩
    go_wp2_with fail
    go_ret
    exact ⟨rfl, rfl⟩
  · subst h
    go_enter Try.func20, Try.ntmps20
    go_wp2_with fail
    refine (specInF _ _ _ _).mono ?_
    rintro e w1 ⟨rfl, rfl⟩
    go_wp2_with fail
    go_ret
    exact ⟨rfl, rfl⟩
  · subst h
    go_enter Try.func20, Try.ntmps20
    go_wp2_with fail
    refine (specInF _ _ _ _).mono ?_
    rintro e w1 ⟨rfl, rfl⟩
    go_wp2_with fail
    go_ret
    exact ⟨rfl, rfl⟩
  · subst h
    go_enter Try.func20, Try.ntmps20
    go_wp2_with fail
    refine (specInF _ _ _ _).mono ?_
    rintro e w1 ⟨rfl, rfl⟩
    go_wp2_with fail
    go_ret
    exact ⟨rfl, rfl⟩
  · subst h
    go_enter Try.func20, Try.ntmps20
    go_wp2_with fail
    refine (specInF _ _ _ _).mono ?_
    rintro e w1 ⟨rfl, rfl⟩
    go_wp2_with fail
    go_ret
    exact ⟨rfl, rfl⟩
  · subst h
    go_enter Try.func20, Try.ntmps20
    go_wp2_with fail
    refine (specInF _ _ _ _).mono ?_
    rintro e w1 ⟨rfl, rfl⟩
    go_wp2_with fail
    go_ret
    exact ⟨rfl, rfl⟩
  · subst h
    go_enter Try.func20, Try.ntmps20
    go_wp2_with fail
    refine (specInF _ _ _ _).mono ?_
    rintro e w1 ⟨rfl, rfl⟩
    go_wp2_with fail
    go_ret
    exact ⟨rfl, rfl⟩
  · subst h
    go_enter Try.func20, Try.ntmps20
    go_wp2_with fail
    refine (specInF _ _ _ _).mono ?_
    rintro e w1 ⟨rfl, rfl⟩
    go_wp2_with fail
    go_ret
    exact ⟨rfl, rfl⟩
  · have hin : (decide (1 ≤ k) && decide (k ≤ 7)) = false := by
      rcases h with h | h
      · rw [decide_eq_false (by omega : ¬ 1 ≤ k)]; rfl
      · rw [decide_eq_false (by omega : ¬ k ≤ 7)]; simp
    have ha : arityF k = -1 := by
      unfold arityF
      rw [if_neg (by omega), if_neg (by omega), if_neg (by omega)]
    rw [ha]
    have n8 : (k == 8) = false := beq_eq_false_iff_ne.2 (by omega)
    have n9 : (k == 9) = false := beq_eq_false_iff_ne.2 (by omega)
    have n10 : (k == 10) = false := beq_eq_false_iff_ne.2 (by omega)
    have n11 : (k == 11) = false := beq_eq_false_iff_ne.2 (by omega)
    have n12 : (k == 12) = false := beq_eq_false_iff_ne.2 (by omega)
    clear h
    go_enter Try.func20, Try.ntmps20
    go_wp2_with fail
    refine (specInF _ _ _ _).mono ?_
    rintro e w1 ⟨rfl, rfl⟩
    rw [hin]
    go_wp2_with fail
    go_ret
    exact ⟨rfl, rfl⟩
end Go.Proofs.Ythhhmlohfhioeaa
