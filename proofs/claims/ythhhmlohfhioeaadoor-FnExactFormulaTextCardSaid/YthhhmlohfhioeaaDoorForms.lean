/-
  Kinds of formulas: which type stands for a kind, and its number of parts; the program's and the model's walks.
-/
import Derived.Test.YthhhmlohfhioeaaDoorWords
import Derived.Test.YthhhmlohfhioeaaDoorChecked
import Derived.Laws.ResultCell
import Derived.Test.YthhhmlohfhioeaaDoorNums
namespace Go.Proofs.YthhhmlohfhioeaaDoor
open Go Go.RowKit

/-- The type that stands for a kind. -/
def formT (k : Int) : TypeId := if k = 1 then 91 else if k = 2 then 95 else if k = 3 then 96 else if k = 4 then 98 else if k = 5 then 101 else if k = 6 then 102 else if k = 7 then 103 else if k = 8 then 94 else if k = 9 then 68 else if k = 10 then 69 else if k = 11 then 99 else if k = 12 then 100 else 104
/-- The number of parts of a kind. -/
def arityF (k : Int) : Int := if 1 ≤ k ∧ k ≤ 7 then 0 else if k = 8 ∨ k = 11 ∨ k = 12 then 1 else if k = 9 ∨ k = 10 then 2 else -1
abbrev formV (k : Int) : Value := .iface (formT k) (.agg #[])
theorem kind_cases (k : Int) : k = 1 ∨ k = 2 ∨ k = 3 ∨ k = 4 ∨ k = 5 ∨ k = 6 ∨ k = 7 ∨ k = 8 ∨ k = 9 ∨ k = 10 ∨ k = 11 ∨ k = 12 ∨ (k < 1 ∨ 12 < k) := by omega

theorem formT_1 : formT 1 = 91 := rfl
theorem formT_2 : formT 2 = 95 := rfl
theorem formT_3 : formT 3 = 96 := rfl
theorem formT_4 : formT 4 = 98 := rfl
theorem formT_5 : formT 5 = 101 := rfl
theorem formT_6 : formT 6 = 102 := rfl
theorem formT_7 : formT 7 = 103 := rfl
theorem formT_8 : formT 8 = 94 := rfl
theorem formT_9 : formT 9 = 68 := rfl
theorem formT_10 : formT 10 = 69 := rfl
theorem formT_11 : formT 11 = 99 := rfl
theorem formT_12 : formT 12 = 100 := rfl
theorem formT_no {k : Int} (h : k < 1 ∨ 12 < k) : formT k = 104 := by
  unfold formT
  rw [if_neg (by omega), if_neg (by omega), if_neg (by omega), if_neg (by omega), if_neg (by omega), if_neg (by omega), if_neg (by omega), if_neg (by omega), if_neg (by omega), if_neg (by omega), if_neg (by omega), if_neg (by omega)]

set_option maxHeartbeats 800000 in
theorem implFormOf (k : Int) (w : World) : Calls Tryd.prog 47 #[.int .i64 k] w fun e w' => e = .returned (formV k) ∧ w' = w := by
  unfold formV
  rcases kind_cases k with h | h | h | h | h | h | h | h | h | h | h | h | h
  · subst h
    rw [formT_1]
    go_enter Tryd.func47, Tryd.ntmps47
    go_wp2_with fail
    go_ret
    exact ⟨rfl, rfl⟩
  · subst h
    rw [formT_2]
    go_enter Tryd.func47, Tryd.ntmps47
    go_wp2_with fail
    go_ret
    exact ⟨rfl, rfl⟩
  · subst h
    rw [formT_3]
    go_enter Tryd.func47, Tryd.ntmps47
    go_wp2_with fail
    go_ret
    exact ⟨rfl, rfl⟩
  · subst h
    rw [formT_4]
    go_enter Tryd.func47, Tryd.ntmps47
    go_wp2_with fail
    go_ret
    exact ⟨rfl, rfl⟩
  · subst h
    rw [formT_5]
    go_enter Tryd.func47, Tryd.ntmps47
    go_wp2_with fail
    go_ret
    exact ⟨rfl, rfl⟩
  · subst h
    rw [formT_6]
    go_enter Tryd.func47, Tryd.ntmps47
    go_wp2_with fail
    go_ret
    exact ⟨rfl, rfl⟩
  · subst h
    rw [formT_7]
    go_enter Tryd.func47, Tryd.ntmps47
    go_wp2_with fail
    go_ret
    exact ⟨rfl, rfl⟩
  · subst h
    rw [formT_8]
    go_enter Tryd.func47, Tryd.ntmps47
    go_wp2_with fail
    go_ret
    exact ⟨rfl, rfl⟩
  · subst h
    rw [formT_9]
    go_enter Tryd.func47, Tryd.ntmps47
    go_wp2_with fail
    go_ret
    exact ⟨rfl, rfl⟩
  · subst h
    rw [formT_10]
    go_enter Tryd.func47, Tryd.ntmps47
    go_wp2_with fail
    go_ret
    exact ⟨rfl, rfl⟩
  · subst h
    rw [formT_11]
    go_enter Tryd.func47, Tryd.ntmps47
    go_wp2_with fail
    go_ret
    exact ⟨rfl, rfl⟩
  · subst h
    rw [formT_12]
    go_enter Tryd.func47, Tryd.ntmps47
    go_wp2_with fail
    go_ret
    exact ⟨rfl, rfl⟩
  · rw [formT_no h]
    go_enter Tryd.func47, Tryd.ntmps47
    have n1 : (k == 1) = false := beq_eq_false_iff_ne.2 (by omega)
    have n2 : (k == 2) = false := beq_eq_false_iff_ne.2 (by omega)
    have n3 : (k == 3) = false := beq_eq_false_iff_ne.2 (by omega)
    have n4 : (k == 4) = false := beq_eq_false_iff_ne.2 (by omega)
    have n5 : (k == 5) = false := beq_eq_false_iff_ne.2 (by omega)
    have n6 : (k == 6) = false := beq_eq_false_iff_ne.2 (by omega)
    have n7 : (k == 7) = false := beq_eq_false_iff_ne.2 (by omega)
    have n8 : (k == 8) = false := beq_eq_false_iff_ne.2 (by omega)
    have n9 : (k == 9) = false := beq_eq_false_iff_ne.2 (by omega)
    have n10 : (k == 10) = false := beq_eq_false_iff_ne.2 (by omega)
    have n11 : (k == 11) = false := beq_eq_false_iff_ne.2 (by omega)
    have n12 : (k == 12) = false := beq_eq_false_iff_ne.2 (by omega)
    clear h
    go_wp2_with fail
    go_ret
    exact ⟨rfl, rfl⟩

theorem implArity_no (w : World) : Calls Tryd.prog 116 #[.agg #[]] w fun e w' => e = .returned (.int .i64 0) ∧ Below w.heap.size w w' := by
  go_enter Tryd.func116, Tryd.ntmps116
  go_wp2_with fail
  go_ret
  exact ⟨rfl, (Below.refl _ _).alloc (Nat.le_refl _) _⟩
theorem implArity_one (w : World) : Calls Tryd.prog 117 #[.agg #[]] w fun e w' => e = .returned (.int .i64 1) ∧ Below w.heap.size w w' := by
  go_enter Tryd.func117, Tryd.ntmps117
  go_wp2_with fail
  go_ret
  exact ⟨rfl, (Below.refl _ _).alloc (Nat.le_refl _) _⟩
theorem implArity_two (w : World) : Calls Tryd.prog 115 #[.agg #[]] w fun e w' => e = .returned (.int .i64 2) ∧ Below w.heap.size w w' := by
  go_enter Tryd.func115, Tryd.ntmps115
  go_wp2_with fail
  go_ret
  exact ⟨rfl, (Below.refl _ _).alloc (Nat.le_refl _) _⟩
theorem implArity_none (w : World) : Calls Tryd.prog 118 #[.agg #[]] w fun e w' => e = .returned (.int .i64 (-1)) ∧ Below w.heap.size w w' := by
  go_enter Tryd.func118, Tryd.ntmps118
  go_wp2_with fail
  go_ret
  exact ⟨rfl, (Below.refl _ _).alloc (Nat.le_refl _) _⟩

theorem invoke_1 (w : World) : (method 254 91 (.agg #[]) "loop.example/g00590/impl.arity").run Tryd.prog w = .ok (116, .agg #[]) w := by kernel_rfl
theorem invoke_2 (w : World) : (method 254 95 (.agg #[]) "loop.example/g00590/impl.arity").run Tryd.prog w = .ok (116, .agg #[]) w := by kernel_rfl
theorem invoke_3 (w : World) : (method 254 96 (.agg #[]) "loop.example/g00590/impl.arity").run Tryd.prog w = .ok (116, .agg #[]) w := by kernel_rfl
theorem invoke_4 (w : World) : (method 254 98 (.agg #[]) "loop.example/g00590/impl.arity").run Tryd.prog w = .ok (116, .agg #[]) w := by kernel_rfl
theorem invoke_5 (w : World) : (method 254 101 (.agg #[]) "loop.example/g00590/impl.arity").run Tryd.prog w = .ok (116, .agg #[]) w := by kernel_rfl
theorem invoke_6 (w : World) : (method 254 102 (.agg #[]) "loop.example/g00590/impl.arity").run Tryd.prog w = .ok (116, .agg #[]) w := by kernel_rfl
theorem invoke_7 (w : World) : (method 254 103 (.agg #[]) "loop.example/g00590/impl.arity").run Tryd.prog w = .ok (116, .agg #[]) w := by kernel_rfl
theorem invoke_8 (w : World) : (method 254 94 (.agg #[]) "loop.example/g00590/impl.arity").run Tryd.prog w = .ok (117, .agg #[]) w := by kernel_rfl
theorem invoke_9 (w : World) : (method 254 68 (.agg #[]) "loop.example/g00590/impl.arity").run Tryd.prog w = .ok (115, .agg #[]) w := by kernel_rfl
theorem invoke_10 (w : World) : (method 254 69 (.agg #[]) "loop.example/g00590/impl.arity").run Tryd.prog w = .ok (115, .agg #[]) w := by kernel_rfl
theorem invoke_11 (w : World) : (method 254 99 (.agg #[]) "loop.example/g00590/impl.arity").run Tryd.prog w = .ok (117, .agg #[]) w := by kernel_rfl
theorem invoke_12 (w : World) : (method 254 100 (.agg #[]) "loop.example/g00590/impl.arity").run Tryd.prog w = .ok (117, .agg #[]) w := by kernel_rfl
theorem invoke_no (w : World) : (method 254 104 (.agg #[]) "loop.example/g00590/impl.arity").run Tryd.prog w = .ok (118, .agg #[]) w := by kernel_rfl

set_option maxHeartbeats 800000 in
theorem implArityOf (k : Int) (w : World) : Calls Tryd.prog 45 #[.int .i64 k] w fun e w' => e = .returned (.int .i64 (arityF k)) ∧ Below w.heap.size w w' := by
  rcases kind_cases k with h | h | h | h | h | h | h | h | h | h | h | h | h
  · subst h
    have hi := invoke_1
    go_enter Tryd.func45, Tryd.ntmps45
    go_wp2_with fail
    refine (implFormOf _ _).mono ?_
    rintro e w1 ⟨rfl, rfl⟩
    simp only [formV, formT_1]
    go_wp2_with fail
    refine (implArity_no _).mono ?_
    rintro e w2 ⟨rfl, hb⟩
    go_wp2
    go_ret
    exact ⟨rfl, hb⟩
  · subst h
    have hi := invoke_2
    go_enter Tryd.func45, Tryd.ntmps45
    go_wp2_with fail
    refine (implFormOf _ _).mono ?_
    rintro e w1 ⟨rfl, rfl⟩
    simp only [formV, formT_2]
    go_wp2_with fail
    refine (implArity_no _).mono ?_
    rintro e w2 ⟨rfl, hb⟩
    go_wp2
    go_ret
    exact ⟨rfl, hb⟩
  · subst h
    have hi := invoke_3
    go_enter Tryd.func45, Tryd.ntmps45
    go_wp2_with fail
    refine (implFormOf _ _).mono ?_
    rintro e w1 ⟨rfl, rfl⟩
    simp only [formV, formT_3]
    go_wp2_with fail
    refine (implArity_no _).mono ?_
    rintro e w2 ⟨rfl, hb⟩
    go_wp2
    go_ret
    exact ⟨rfl, hb⟩
  · subst h
    have hi := invoke_4
    go_enter Tryd.func45, Tryd.ntmps45
    go_wp2_with fail
    refine (implFormOf _ _).mono ?_
    rintro e w1 ⟨rfl, rfl⟩
    simp only [formV, formT_4]
    go_wp2_with fail
    refine (implArity_no _).mono ?_
    rintro e w2 ⟨rfl, hb⟩
    go_wp2
    go_ret
    exact ⟨rfl, hb⟩
  · subst h
    have hi := invoke_5
    go_enter Tryd.func45, Tryd.ntmps45
    go_wp2_with fail
    refine (implFormOf _ _).mono ?_
    rintro e w1 ⟨rfl, rfl⟩
    simp only [formV, formT_5]
    go_wp2_with fail
    refine (implArity_no _).mono ?_
    rintro e w2 ⟨rfl, hb⟩
    go_wp2
    go_ret
    exact ⟨rfl, hb⟩
  · subst h
    have hi := invoke_6
    go_enter Tryd.func45, Tryd.ntmps45
    go_wp2_with fail
    refine (implFormOf _ _).mono ?_
    rintro e w1 ⟨rfl, rfl⟩
    simp only [formV, formT_6]
    go_wp2_with fail
    refine (implArity_no _).mono ?_
    rintro e w2 ⟨rfl, hb⟩
    go_wp2
    go_ret
    exact ⟨rfl, hb⟩
  · subst h
    have hi := invoke_7
    go_enter Tryd.func45, Tryd.ntmps45
    go_wp2_with fail
    refine (implFormOf _ _).mono ?_
    rintro e w1 ⟨rfl, rfl⟩
    simp only [formV, formT_7]
    go_wp2_with fail
    refine (implArity_no _).mono ?_
    rintro e w2 ⟨rfl, hb⟩
    go_wp2
    go_ret
    exact ⟨rfl, hb⟩
  · subst h
    have hi := invoke_8
    go_enter Tryd.func45, Tryd.ntmps45
    go_wp2_with fail
    refine (implFormOf _ _).mono ?_
    rintro e w1 ⟨rfl, rfl⟩
    simp only [formV, formT_8]
    go_wp2_with fail
    refine (implArity_one _).mono ?_
    rintro e w2 ⟨rfl, hb⟩
    go_wp2
    go_ret
    exact ⟨rfl, hb⟩
  · subst h
    have hi := invoke_9
    go_enter Tryd.func45, Tryd.ntmps45
    go_wp2_with fail
    refine (implFormOf _ _).mono ?_
    rintro e w1 ⟨rfl, rfl⟩
    simp only [formV, formT_9]
    go_wp2_with fail
    refine (implArity_two _).mono ?_
    rintro e w2 ⟨rfl, hb⟩
    go_wp2
    go_ret
    exact ⟨rfl, hb⟩
  · subst h
    have hi := invoke_10
    go_enter Tryd.func45, Tryd.ntmps45
    go_wp2_with fail
    refine (implFormOf _ _).mono ?_
    rintro e w1 ⟨rfl, rfl⟩
    simp only [formV, formT_10]
    go_wp2_with fail
    refine (implArity_two _).mono ?_
    rintro e w2 ⟨rfl, hb⟩
    go_wp2
    go_ret
    exact ⟨rfl, hb⟩
  · subst h
    have hi := invoke_11
    go_enter Tryd.func45, Tryd.ntmps45
    go_wp2_with fail
    refine (implFormOf _ _).mono ?_
    rintro e w1 ⟨rfl, rfl⟩
    simp only [formV, formT_11]
    go_wp2_with fail
    refine (implArity_one _).mono ?_
    rintro e w2 ⟨rfl, hb⟩
    go_wp2
    go_ret
    exact ⟨rfl, hb⟩
  · subst h
    have hi := invoke_12
    go_enter Tryd.func45, Tryd.ntmps45
    go_wp2_with fail
    refine (implFormOf _ _).mono ?_
    rintro e w1 ⟨rfl, rfl⟩
    simp only [formV, formT_12]
    go_wp2_with fail
    refine (implArity_one _).mono ?_
    rintro e w2 ⟨rfl, hb⟩
    go_wp2
    go_ret
    exact ⟨rfl, hb⟩
  · have hi := invoke_no
    have ha : arityF k = -1 := by
      unfold arityF
      rw [if_neg (by omega), if_neg (by omega), if_neg (by omega)]
    rw [ha]
    have hT := formT_no h
    go_enter Tryd.func45, Tryd.ntmps45
    go_wp2_with fail
    refine (implFormOf _ _).mono ?_
    rintro e w1 ⟨rfl, rfl⟩
    simp only [formV, hT]
    clear hT h
    go_wp2_with fail
    refine (implArity_none _).mono ?_
    rintro e w2 ⟨rfl, hb⟩
    go_wp2
    go_ret
    exact ⟨rfl, hb⟩

theorem specInF (x a b : Int) (w : World) : Calls Tryd.prog 34 #[.int .i64 x, .int .i64 a, .int .i64 b] w fun e w' => e = .returned (.bool (decide (a ≤ x) && decide (x ≤ b))) ∧ w' = w := by
  by_cases h : a ≤ x
  · have h1 : decide (a ≤ x) = true := decide_eq_true h
    go_enter Tryd.func34, Tryd.ntmps34
    go_wp2_with fail
    go_ret
    exact ⟨by first | rfl | (rw [h1]; rfl), rfl⟩
  · have h1 : decide (a ≤ x) = false := decide_eq_false h
    go_enter Tryd.func34, Tryd.ntmps34
    go_wp2_with fail
    go_ret
    exact ⟨by first | rfl | (rw [h1]; rfl), rfl⟩

set_option maxHeartbeats 800000 in
theorem specArityOf (k : Int) (w : World) : Calls Tryd.prog 61 #[.int .i64 k] w fun e w' => e = .returned (.int .i64 (arityF k)) ∧ w' = w := by
  rcases kind_cases k with h | h | h | h | h | h | h | h | h | h | h | h | h
  · subst h
    go_enter Tryd.func61, Tryd.ntmps61
    go_wp2_with fail
    refine (specInF _ _ _ _).mono ?_
    rintro e w1 ⟨rfl, rfl⟩
    go_wp2_with fail
    go_ret
    exact ⟨rfl, rfl⟩
  · subst h
    go_enter Tryd.func61, Tryd.ntmps61
    go_wp2_with fail
    refine (specInF _ _ _ _).mono ?_
    rintro e w1 ⟨rfl, rfl⟩
    go_wp2_with fail
    go_ret
    exact ⟨rfl, rfl⟩
  · subst h
    go_enter Tryd.func61, Tryd.ntmps61
    go_wp2_with fail
    refine (specInF _ _ _ _).mono ?_
    rintro e w1 ⟨rfl, rfl⟩
    go_wp2_with fail
    go_ret
    exact ⟨rfl, rfl⟩
  · subst h
    go_enter Tryd.func61, Tryd.ntmps61
    go_wp2_with fail
    refine (specInF _ _ _ _).mono ?_
    rintro e w1 ⟨rfl, rfl⟩
    go_wp2_with fail
    go_ret
    exact ⟨rfl, rfl⟩
  · subst h
    go_enter Tryd.func61, Tryd.ntmps61
    go_wp2_with fail
    refine (specInF _ _ _ _).mono ?_
    rintro e w1 ⟨rfl, rfl⟩
    go_wp2_with fail
    go_ret
    exact ⟨rfl, rfl⟩
  · subst h
    go_enter Tryd.func61, Tryd.ntmps61
    go_wp2_with fail
    refine (specInF _ _ _ _).mono ?_
    rintro e w1 ⟨rfl, rfl⟩
    go_wp2_with fail
    go_ret
    exact ⟨rfl, rfl⟩
  · subst h
    go_enter Tryd.func61, Tryd.ntmps61
    go_wp2_with fail
    refine (specInF _ _ _ _).mono ?_
    rintro e w1 ⟨rfl, rfl⟩
    go_wp2_with fail
    go_ret
    exact ⟨rfl, rfl⟩
  · subst h
    go_enter Tryd.func61, Tryd.ntmps61
    go_wp2_with fail
    refine (specInF _ _ _ _).mono ?_
    rintro e w1 ⟨rfl, rfl⟩
    go_wp2_with fail
    go_ret
    exact ⟨rfl, rfl⟩
  · subst h
    go_enter Tryd.func61, Tryd.ntmps61
    go_wp2_with fail
    refine (specInF _ _ _ _).mono ?_
    rintro e w1 ⟨rfl, rfl⟩
    go_wp2_with fail
    go_ret
    exact ⟨rfl, rfl⟩
  · subst h
    go_enter Tryd.func61, Tryd.ntmps61
    go_wp2_with fail
    refine (specInF _ _ _ _).mono ?_
    rintro e w1 ⟨rfl, rfl⟩
    go_wp2_with fail
    go_ret
    exact ⟨rfl, rfl⟩
  · subst h
    go_enter Tryd.func61, Tryd.ntmps61
    go_wp2_with fail
    refine (specInF _ _ _ _).mono ?_
    rintro e w1 ⟨rfl, rfl⟩
    go_wp2_with fail
    go_ret
    exact ⟨rfl, rfl⟩
  · subst h
    go_enter Tryd.func61, Tryd.ntmps61
    go_wp2_with fail
    refine (specInF _ _ _ _).mono ?_
    rintro e w1 ⟨rfl, rfl⟩
    go_wp2_with fail
    go_ret
    exact ⟨rfl, rfl⟩
  · have hin : (decide (1 ≤ k) && decide (k ≤ 7)) = false := by
      rcases h with h | h
      · rw [decide_eq_false (by omega : ¬ 1 ≤ k)]; rfl
      · rw [decide_eq_false (by omega : ¬ k ≤ 7)]; simp
    have ha : arityF k = -1 := by
      unfold arityF
      rw [if_neg (by omega), if_neg (by omega), if_neg (by omega)]
    rw [ha]
    have n8 : (k == 8) = false := beq_eq_false_iff_ne.2 (by omega)
    have n9 : (k == 9) = false := beq_eq_false_iff_ne.2 (by omega)
    have n10 : (k == 10) = false := beq_eq_false_iff_ne.2 (by omega)
    have n11 : (k == 11) = false := beq_eq_false_iff_ne.2 (by omega)
    have n12 : (k == 12) = false := beq_eq_false_iff_ne.2 (by omega)
    clear h
    go_enter Tryd.func61, Tryd.ntmps61
    go_wp2_with fail
    refine (specInF _ _ _ _).mono ?_
    rintro e w1 ⟨rfl, rfl⟩
    rw [hin]
    go_wp2_with fail
    go_ret
    exact ⟨rfl, rfl⟩
end Go.Proofs.YthhhmlohfhioeaaDoor
