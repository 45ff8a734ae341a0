/-
  What the four tables of chapter 3 hold, and the walks of the program's functions over them.
-/
import Derived.Test.YtbnpfgkcehlfnaaDoorTruth
import Derived.Test.YtbnpfgkcehlfnaaDoorRows
import Derived.Test.YtbnpfgkcehlfnaaDoorFlat
import Derived.Test.YtbnpfgkcehlfnaaDoorArrEq
import Derived.BigQuiet
namespace Go.Proofs.YtbnpfgkcehlfnaaDoor
open Go Go.RowKit

def HasNotRow (w : World) : Prop := w.var? Tryd.prog "loop.example/g00590/impl.notRow" = some #[.int .i64 2, .int .i64 1, .int .i64 0]
theorem HasNotRow.keeps {w w' : World} (h : HasNotRow w) (hb : Below w.heap.size w w') : HasNotRow w' := var_stays h hb
theorem gNotRow : Tryd.prog.globalNamed "loop.example/g00590/impl.notRow" = some 2 := by kernel_rfl
theorem notRow_of {W : World} (i : Nat) {l : List (String × DataW Unit)} (h : laidMet Tryd.prog l W) (hi : l[i]? = some ("loop.example/g00590/impl.notRow", Rows.laid_loop_example_g00590_impl_notRow)) : HasNotRow W :=
  (laid_at (t := 31) i h hi gNotRow (by kernel_rfl) (by kernel_rfl)).trans (congrArg some (show (flat Rows.laid_loop_example_g00590_impl_notRow).toArray = _ by kernel_rfl))
theorem HasNotRow.cell {w : World} (h : HasNotRow w) (i : Nat) : w.cell? ⟨2, i, none⟩ = (#[Value.int .i64 2, .int .i64 1, .int .i64 0])[i]? := World.var?_cell gNotRow h i
def HasAndTable (w : World) : Prop := w.var? Tryd.prog "loop.example/g00590/impl.andTable" = some #[.int .i64 0, .int .i64 0, .int .i64 0, .int .i64 0, .int .i64 1, .int .i64 1, .int .i64 0, .int .i64 1, .int .i64 2]
theorem HasAndTable.keeps {w w' : World} (h : HasAndTable w) (hb : Below w.heap.size w w') : HasAndTable w' := var_stays h hb
theorem gAndTable : Tryd.prog.globalNamed "loop.example/g00590/impl.andTable" = some 0 := by kernel_rfl
theorem andTable_of {W : World} (i : Nat) {l : List (String × DataW Unit)} (h : laidMet Tryd.prog l W) (hi : l[i]? = some ("loop.example/g00590/impl.andTable", Rows.laid_loop_example_g00590_impl_andTable)) : HasAndTable W :=
  (laid_at (t := 32) i h hi gAndTable (by kernel_rfl) (by kernel_rfl)).trans (congrArg some (show (flat Rows.laid_loop_example_g00590_impl_andTable).toArray = _ by kernel_rfl))
theorem HasAndTable.cell {w : World} (h : HasAndTable w) (i : Nat) : w.cell? ⟨0, i, none⟩ = (#[Value.int .i64 0, .int .i64 0, .int .i64 0, .int .i64 0, .int .i64 1, .int .i64 1, .int .i64 0, .int .i64 1, .int .i64 2])[i]? := World.var?_cell gAndTable h i
def HasOrTable (w : World) : Prop := w.var? Tryd.prog "loop.example/g00590/impl.orTable" = some #[.int .i64 0, .int .i64 1, .int .i64 2, .int .i64 1, .int .i64 1, .int .i64 2, .int .i64 2, .int .i64 2, .int .i64 2]
theorem HasOrTable.keeps {w w' : World} (h : HasOrTable w) (hb : Below w.heap.size w w') : HasOrTable w' := var_stays h hb
theorem gOrTable : Tryd.prog.globalNamed "loop.example/g00590/impl.orTable" = some 1 := by kernel_rfl
theorem orTable_of {W : World} (i : Nat) {l : List (String × DataW Unit)} (h : laidMet Tryd.prog l W) (hi : l[i]? = some ("loop.example/g00590/impl.orTable", Rows.laid_loop_example_g00590_impl_orTable)) : HasOrTable W :=
  (laid_at (t := 32) i h hi gOrTable (by kernel_rfl) (by kernel_rfl)).trans (congrArg some (show (flat Rows.laid_loop_example_g00590_impl_orTable).toArray = _ by kernel_rfl))
theorem HasOrTable.cell {w : World} (h : HasOrTable w) (i : Nat) : w.cell? ⟨1, i, none⟩ = (#[Value.int .i64 0, .int .i64 1, .int .i64 2, .int .i64 1, .int .i64 1, .int .i64 2, .int .i64 2, .int .i64 2, .int .i64 2])[i]? := World.var?_cell gOrTable h i
def HasJoinTable (w : World) : Prop := w.var? Tryd.prog "loop.example/g00590/impl.joinTable" = some #[.int .i64 0, .int .i64 1, .int .i64 1, .int .i64 1, .int .i64 1, .int .i64 1, .int .i64 1, .int .i64 1, .int .i64 2]
theorem HasJoinTable.keeps {w w' : World} (h : HasJoinTable w) (hb : Below w.heap.size w w') : HasJoinTable w' := var_stays h hb
theorem gJoinTable : Tryd.prog.globalNamed "loop.example/g00590/impl.joinTable" = some 3 := by kernel_rfl
theorem joinTable_of {W : World} (i : Nat) {l : List (String × DataW Unit)} (h : laidMet Tryd.prog l W) (hi : l[i]? = some ("loop.example/g00590/impl.joinTable", Rows.laid_loop_example_g00590_impl_joinTable)) : HasJoinTable W :=
  (laid_at (t := 32) i h hi gJoinTable (by kernel_rfl) (by kernel_rfl)).trans (congrArg some (show (flat Rows.laid_loop_example_g00590_impl_joinTable).toArray = _ by kernel_rfl))
theorem HasJoinTable.cell {w : World} (h : HasJoinTable w) (i : Nat) : w.cell? ⟨3, i, none⟩ = (#[Value.int .i64 0, .int .i64 1, .int .i64 1, .int .i64 1, .int .i64 1, .int .i64 1, .int .i64 1, .int .i64 1, .int .i64 2])[i]? := World.var?_cell gJoinTable h i

theorem implAreTruths (a b : Int) (w : World) : Calls Tryd.prog 27 #[.int .i64 a, .int .i64 b] w (Gave (.bool (isT a && isT b)) w) := by
  cases ha : isT a with
  | false =>
    have Ha := Lib.hid ha
    clear ha
    go_enter Tryd.func27, Tryd.ntmps27
    go_wp2_with fail
    refine (implIsTruth a _).mono ?_
    rw [Ha.out]
    rintro e w1 ⟨rfl, rfl⟩
    go_wp2
    go_ret
    exact ⟨rfl, rfl⟩
  | true =>
    cases hb : isT b with
    | false =>
      have Ha := Lib.hid ha
      have Hb := Lib.hid hb
      clear ha hb
      go_enter Tryd.func27, Tryd.ntmps27
      go_wp2_with fail
      refine (implIsTruth a _).mono ?_
      rw [Ha.out]
      rintro e w1 ⟨rfl, rfl⟩
      go_wp2_with fail
      refine (implIsTruth b _).mono ?_
      rw [Hb.out]
      rintro e w1 ⟨rfl, rfl⟩
      go_wp2
      go_ret
      exact ⟨rfl, rfl⟩
    | true =>
      have Ha := Lib.hid ha
      have Hb := Lib.hid hb
      clear ha hb
      go_enter Tryd.func27, Tryd.ntmps27
      go_wp2_with fail
      refine (implIsTruth a _).mono ?_
      rw [Ha.out]
      rintro e w1 ⟨rfl, rfl⟩
      go_wp2_with fail
      refine (implIsTruth b _).mono ?_
      rw [Hb.out]
      rintro e w1 ⟨rfl, rfl⟩
      go_wp2
      go_ret
      exact ⟨rfl, rfl⟩

theorem implNotOf (a : Int) (w : World) (hT : HasNotRow w) : Calls Tryd.prog 16 #[.int .i64 a] w (Gave (.int .i64 (notT a)) w) := by
  cases ha : isT a with
  | false =>
    rw [show notT a = 1 from by simp [notT, ha]]
    have Ha := Lib.hid ha
    clear ha
    go_enter Tryd.func16, Tryd.ntmps16
    go_wp2_with fail
    refine (implIsTruth a _).mono ?_
    rw [Ha.out]
    rintro e w1 ⟨rfl, rfl⟩
    go_wp2
    go_ret
    exact ⟨rfl, rfl⟩
  | true =>
    have c0 : w.cell? ⟨2, 0, none⟩ = some (.int .i64 2) := hT.cell 0
    have c1 : w.cell? ⟨2, 1, none⟩ = some (.int .i64 1) := hT.cell 1
    have c2 : w.cell? ⟨2, 2, none⟩ = some (.int .i64 0) := hT.cell 2
    rcases isT_three ha with rfl | rfl | rfl
    all_goals
      clear ha hT
      go_enter Tryd.func16, Tryd.ntmps16
      go_wp2_with fail
      refine (implIsTruth _ _).mono ?_
      rintro e w1 ⟨rfl, rfl⟩
      simp only [show isT 0 = true from rfl, show isT 1 = true from rfl, show isT 2 = true from rfl]
      go_wp2
      go_ret
      exact ⟨rfl, rfl⟩

theorem implAndOf (a b : Int) (w : World) (hT : HasAndTable w) : Calls Tryd.prog 12 #[.int .i64 a, .int .i64 b] w (Gave (.int .i64 (andT a b)) w) := by
  cases h : (isT a && isT b) with
  | false =>
    rw [show andT a b = 1 from by simp [andT, h]]
    have Ha := Lib.hid h
    clear h
    go_enter Tryd.func12, Tryd.ntmps12
    go_wp2_with fail
    refine (implAreTruths a b _).mono ?_
    rw [Ha.out]
    rintro e w1 ⟨rfl, rfl⟩
    go_wp2
    go_ret
    exact ⟨rfl, rfl⟩
  | true =>
    rw [Bool.and_eq_true] at h
    have c0 : w.cell? ⟨0, 0, none⟩ = some (.int .i64 0) := hT.cell 0
    have c1 : w.cell? ⟨0, 1, none⟩ = some (.int .i64 0) := hT.cell 1
    have c2 : w.cell? ⟨0, 2, none⟩ = some (.int .i64 0) := hT.cell 2
    have c3 : w.cell? ⟨0, 3, none⟩ = some (.int .i64 0) := hT.cell 3
    have c4 : w.cell? ⟨0, 4, none⟩ = some (.int .i64 1) := hT.cell 4
    have c5 : w.cell? ⟨0, 5, none⟩ = some (.int .i64 1) := hT.cell 5
    have c6 : w.cell? ⟨0, 6, none⟩ = some (.int .i64 0) := hT.cell 6
    have c7 : w.cell? ⟨0, 7, none⟩ = some (.int .i64 1) := hT.cell 7
    have c8 : w.cell? ⟨0, 8, none⟩ = some (.int .i64 2) := hT.cell 8
    rcases isT_three h.1 with rfl | rfl | rfl <;> rcases isT_three h.2 with rfl | rfl | rfl
    all_goals
      clear h hT
      go_enter Tryd.func12, Tryd.ntmps12
      go_wp2_with fail
      refine (implAreTruths _ _ _).mono ?_
      rintro e w1 ⟨rfl, rfl⟩
      simp only [show isT 0 = true from rfl, show isT 1 = true from rfl, show isT 2 = true from rfl, Bool.and_true]
      go_wp2
      go_ret
      exact ⟨rfl, rfl⟩

theorem implOrOf (a b : Int) (w : World) (hT : HasOrTable w) : Calls Tryd.prog 14 #[.int .i64 a, .int .i64 b] w (Gave (.int .i64 (orT a b)) w) := by
  cases h : (isT a && isT b) with
  | false =>
    rw [show orT a b = 1 from by simp [orT, h]]
    have Ha := Lib.hid h
    clear h
    go_enter Tryd.func14, Tryd.ntmps14
    go_wp2_with fail
    refine (implAreTruths a b _).mono ?_
    rw [Ha.out]
    rintro e w1 ⟨rfl, rfl⟩
    go_wp2
    go_ret
    exact ⟨rfl, rfl⟩
  | true =>
    rw [Bool.and_eq_true] at h
    have c0 : w.cell? ⟨1, 0, none⟩ = some (.int .i64 0) := hT.cell 0
    have c1 : w.cell? ⟨1, 1, none⟩ = some (.int .i64 1) := hT.cell 1
    have c2 : w.cell? ⟨1, 2, none⟩ = some (.int .i64 2) := hT.cell 2
    have c3 : w.cell? ⟨1, 3, none⟩ = some (.int .i64 1) := hT.cell 3
    have c4 : w.cell? ⟨1, 4, none⟩ = some (.int .i64 1) := hT.cell 4
    have c5 : w.cell? ⟨1, 5, none⟩ = some (.int .i64 2) := hT.cell 5
    have c6 : w.cell? ⟨1, 6, none⟩ = some (.int .i64 2) := hT.cell 6
    have c7 : w.cell? ⟨1, 7, none⟩ = some (.int .i64 2) := hT.cell 7
    have c8 : w.cell? ⟨1, 8, none⟩ = some (.int .i64 2) := hT.cell 8
    rcases isT_three h.1 with rfl | rfl | rfl <;> rcases isT_three h.2 with rfl | rfl | rfl
    all_goals
      clear h hT
      go_enter Tryd.func14, Tryd.ntmps14
      go_wp2_with fail
      refine (implAreTruths _ _ _).mono ?_
      rintro e w1 ⟨rfl, rfl⟩
      simp only [show isT 0 = true from rfl, show isT 1 = true from rfl, show isT 2 = true from rfl, Bool.and_true]
      go_wp2
      go_ret
      exact ⟨rfl, rfl⟩

theorem implJoinOf (a b : Int) (w : World) (hT : HasJoinTable w) : Calls Tryd.prog 18 #[.int .i64 a, .int .i64 b] w (Gave (.int .i64 (joinT a b)) w) := by
  cases h : (isT a && isT b) with
  | false =>
    rw [show joinT a b = 1 from by
      unfold joinT
      by_cases e : a = b
      · subst e
        have : isT a = false := by simpa using h
        simp [this]
      · simp [e]]
    have Ha := Lib.hid h
    clear h
    go_enter Tryd.func18, Tryd.ntmps18
    go_wp2_with fail
    refine (implAreTruths a b _).mono ?_
    rw [Ha.out]
    rintro e w1 ⟨rfl, rfl⟩
    go_wp2
    go_ret
    exact ⟨rfl, rfl⟩
  | true =>
    rw [Bool.and_eq_true] at h
    have c0 : w.cell? ⟨3, 0, none⟩ = some (.int .i64 0) := hT.cell 0
    have c1 : w.cell? ⟨3, 1, none⟩ = some (.int .i64 1) := hT.cell 1
    have c2 : w.cell? ⟨3, 2, none⟩ = some (.int .i64 1) := hT.cell 2
    have c3 : w.cell? ⟨3, 3, none⟩ = some (.int .i64 1) := hT.cell 3
    have c4 : w.cell? ⟨3, 4, none⟩ = some (.int .i64 1) := hT.cell 4
    have c5 : w.cell? ⟨3, 5, none⟩ = some (.int .i64 1) := hT.cell 5
    have c6 : w.cell? ⟨3, 6, none⟩ = some (.int .i64 1) := hT.cell 6
    have c7 : w.cell? ⟨3, 7, none⟩ = some (.int .i64 1) := hT.cell 7
    have c8 : w.cell? ⟨3, 8, none⟩ = some (.int .i64 2) := hT.cell 8
    rcases isT_three h.1 with rfl | rfl | rfl <;> rcases isT_three h.2 with rfl | rfl | rfl
    all_goals
      clear h hT
      go_enter Tryd.func18, Tryd.ntmps18
      go_wp2_with fail
      refine (implAreTruths _ _ _).mono ?_
      rintro e w1 ⟨rfl, rfl⟩
      simp only [show isT 0 = true from rfl, show isT 1 = true from rfl, show isT 2 = true from rfl, Bool.and_true]
      go_wp2
      go_ret
      exact ⟨rfl, rfl⟩

/-- It returned x, and nothing old has turned. -/
def GaveOn (x : Value) (w : World) (e : Ending) (w' : World) : Prop := e = .returned x ∧ Below w.heap.size w w'

theorem sizeInt (w : World) : (sizeOf 3).run Tryd.prog w = .ok 1 w := by kernel_rfl
theorem eqRow (w : World) (xs ys : List Int) (hx : xs.length = 3) (hy : ys.length = 3) : (binOp .eql 31 (.agg (xs.map (Value.int .i64)).toArray) (.agg (ys.map (Value.int .i64)).toArray)).run Tryd.prog w = .ok (.bool (xs == ys)) w :=
  run_eql_ints w 31 3 3 .i64 Tryd.underlying31 Tryd.underlying3 sizeInt xs ys hx hy
theorem eqRow00 (w : World) : (binOp .eql 31 (.agg #[Value.int .i64 0, Value.int .i64 1, Value.int .i64 1]) (.agg #[Value.int .i64 0, Value.int .i64 1, Value.int .i64 1])).run Tryd.prog w = .ok (.bool true) w := eqRow w [0, 1, 1] [0, 1, 1] rfl rfl
theorem eqRow01 (w : World) : (binOp .eql 31 (.agg #[Value.int .i64 0, Value.int .i64 1, Value.int .i64 1]) (.agg #[Value.int .i64 1, Value.int .i64 1, Value.int .i64 1])).run Tryd.prog w = .ok (.bool false) w := eqRow w [0, 1, 1] [1, 1, 1] rfl rfl
theorem eqRow02 (w : World) : (binOp .eql 31 (.agg #[Value.int .i64 0, Value.int .i64 1, Value.int .i64 1]) (.agg #[Value.int .i64 1, Value.int .i64 1, Value.int .i64 2])).run Tryd.prog w = .ok (.bool false) w := eqRow w [0, 1, 1] [1, 1, 2] rfl rfl
theorem eqRow10 (w : World) : (binOp .eql 31 (.agg #[Value.int .i64 1, Value.int .i64 1, Value.int .i64 1]) (.agg #[Value.int .i64 0, Value.int .i64 1, Value.int .i64 1])).run Tryd.prog w = .ok (.bool false) w := eqRow w [1, 1, 1] [0, 1, 1] rfl rfl
theorem eqRow11 (w : World) : (binOp .eql 31 (.agg #[Value.int .i64 1, Value.int .i64 1, Value.int .i64 1]) (.agg #[Value.int .i64 1, Value.int .i64 1, Value.int .i64 1])).run Tryd.prog w = .ok (.bool true) w := eqRow w [1, 1, 1] [1, 1, 1] rfl rfl
theorem eqRow12 (w : World) : (binOp .eql 31 (.agg #[Value.int .i64 1, Value.int .i64 1, Value.int .i64 1]) (.agg #[Value.int .i64 1, Value.int .i64 1, Value.int .i64 2])).run Tryd.prog w = .ok (.bool false) w := eqRow w [1, 1, 1] [1, 1, 2] rfl rfl
theorem eqRow20 (w : World) : (binOp .eql 31 (.agg #[Value.int .i64 1, Value.int .i64 1, Value.int .i64 2]) (.agg #[Value.int .i64 0, Value.int .i64 1, Value.int .i64 1])).run Tryd.prog w = .ok (.bool false) w := eqRow w [1, 1, 2] [0, 1, 1] rfl rfl
theorem eqRow21 (w : World) : (binOp .eql 31 (.agg #[Value.int .i64 1, Value.int .i64 1, Value.int .i64 2]) (.agg #[Value.int .i64 1, Value.int .i64 1, Value.int .i64 1])).run Tryd.prog w = .ok (.bool false) w := eqRow w [1, 1, 2] [1, 1, 1] rfl rfl
theorem eqRow22 (w : World) : (binOp .eql 31 (.agg #[Value.int .i64 1, Value.int .i64 1, Value.int .i64 2]) (.agg #[Value.int .i64 1, Value.int .i64 1, Value.int .i64 2])).run Tryd.prog w = .ok (.bool true) w := eqRow w [1, 1, 2] [1, 1, 2] rfl rfl

theorem implIsWithin (a b : Int) (w : World) (hT : HasJoinTable w) : Calls Tryd.prog 20 #[.int .i64 a, .int .i64 b] w (GaveOn (.bool (withinT a b)) w) := by
  cases h : (isT a && isT b) with
  | false =>
    rw [show withinT a b = false from by simp [withinT, h]]
    have Ha := Lib.hid h
    clear h
    go_enter Tryd.func20, Tryd.ntmps20
    go_wp2_with fail
    refine (implAreTruths a b _).mono ?_
    rw [Ha.out]
    rintro e w1 ⟨rfl, rfl⟩
    go_wp2
    go_ret
    exact ⟨rfl, Below.refl _ _⟩
  | true =>
    rw [Bool.and_eq_true] at h
    have c0 : w.cell? ⟨3, 0, none⟩ = some (.int .i64 0) := hT.cell 0
    have c1 : w.cell? ⟨3, 1, none⟩ = some (.int .i64 1) := hT.cell 1
    have c2 : w.cell? ⟨3, 2, none⟩ = some (.int .i64 1) := hT.cell 2
    have c3 : w.cell? ⟨3, 3, none⟩ = some (.int .i64 1) := hT.cell 3
    have c4 : w.cell? ⟨3, 4, none⟩ = some (.int .i64 1) := hT.cell 4
    have c5 : w.cell? ⟨3, 5, none⟩ = some (.int .i64 1) := hT.cell 5
    have c6 : w.cell? ⟨3, 6, none⟩ = some (.int .i64 1) := hT.cell 6
    have c7 : w.cell? ⟨3, 7, none⟩ = some (.int .i64 1) := hT.cell 7
    have c8 : w.cell? ⟨3, 8, none⟩ = some (.int .i64 2) := hT.cell 8
    have e00 := eqRow00
    have e01 := eqRow01
    have e02 := eqRow02
    have e10 := eqRow10
    have e11 := eqRow11
    have e12 := eqRow12
    have e20 := eqRow20
    have e21 := eqRow21
    have e22 := eqRow22
    rcases isT_three h.1 with rfl | rfl | rfl <;> rcases isT_three h.2 with rfl | rfl | rfl
    all_goals
      clear h hT
      go_enter Tryd.func20, Tryd.ntmps20
      go_wp2_with fail
      refine (implAreTruths _ _ _).mono ?_
      rintro e w1 ⟨rfl, rfl⟩
      simp only [show isT 0 = true from rfl, show isT 1 = true from rfl, show isT 2 = true from rfl, Bool.and_true]
      go_wp2
      go_quiet (fail)
      go_wp2
      go_ret
      exact ⟨rfl, below_draws (Below.refl _ _) _⟩

end Go.Proofs.YtbnpfgkcehlfnaaDoor
