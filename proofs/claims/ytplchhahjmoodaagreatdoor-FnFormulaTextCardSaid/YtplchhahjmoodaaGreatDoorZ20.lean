/-
  The program's test of the fields of a node.
-/
import Derived.Test.YtplchhahjmoodaaGreatDoorZ15
namespace Go.Proofs.YtplchhahjmoodaaGreatDoor
open Go Go.RowKit

theorem implIsLogic (n : Int) (w : World) : Calls Tryz.prog 114 #[.int .i64 n] w fun e w' => e = .returned (.bool (decide (0 ≤ n) && decide (n < 4))) ∧ w' = w := by
  by_cases h : 0 ≤ n
  · have h1 : decide (0 ≤ n) = true := decide_eq_true h
    go_enter Tryz.func114, Tryz.ntmps114
    go_wp2_with fail
    go_ret
    exact ⟨by first | rfl | (rw [h1]; rfl), rfl⟩
  · have h1 : decide (0 ≤ n) = false := decide_eq_false h
    go_enter Tryz.func114, Tryz.ntmps114
    go_wp2_with fail
    go_ret
    exact ⟨by first | rfl | (rw [h1]; rfl), rfl⟩
theorem logicB {n : Int} {c : Bool} (h : (decide (0 ≤ n) && decide (n < 4)) = c) (W : World) : Calls Tryz.prog 114 #[.int .i64 n] W fun e w' => e = .returned (.bool c) ∧ w' = W := (implIsLogic n W).mono fun e w' g => ⟨by rw [g.1, h], g.2⟩
theorem decL {n : Int} (h : ¬ (0 ≤ n ∧ n < 4)) : (decide (0 ≤ n) && decide (n < 4)) = false := by
  rw [Bool.and_eq_false_iff, decide_eq_false_iff_not, decide_eq_false_iff_not]
  omega
theorem decLy {n : Int} (h : 0 ≤ n ∧ n < 4) : (decide (0 ≤ n) && decide (n < 4)) = true := by rw [decide_eq_true h.1, decide_eq_true h.2]; rfl

theorem run_ta {P : Program} {x t : TypeId} {fs : Array Field} (h : P.underlying t = some (.struct fs)) (hz : ∀ w, (zeroValue t).run P w = .ok (.agg #[]) w) (u : TypeId) (w : World) : (Instr.typeAssert (.iface u (.agg #[])) x t true).run P w = .ok (.tuple #[.agg #[], .bool (u == t)]) w := by
  unfold Instr.typeAssert
  by_cases e : u = t
  · subst e
    simp [run_underlying h, Result.andThen]
  · simp [run_underlying h, Result.andThen, e, hz]
theorem ta_true (u : TypeId) (w : World) : (Instr.typeAssert (.iface u (.agg #[])) 109 145 true).run Tryz.prog w = .ok (.tuple #[.agg #[], .bool (u == 145)]) w := run_ta Tryz.underlying145 (fun _ => by kernel_rfl) u w
theorem ta_var (u : TypeId) (w : World) : (Instr.typeAssert (.iface u (.agg #[])) 109 149 true).run Tryz.prog w = .ok (.tuple #[.agg #[], .bool (u == 149)]) w := run_ta Tryz.underlying149 (fun _ => by kernel_rfl) u w
theorem ta_reach (u : TypeId) (w : World) : (Instr.typeAssert (.iface u (.agg #[])) 109 150 true).run Tryz.prog w = .ok (.tuple #[.agg #[], .bool (u == 150)]) w := run_ta Tryz.underlying150 (fun _ => by kernel_rfl) u w
theorem ta_shared (u : TypeId) (w : World) : (Instr.typeAssert (.iface u (.agg #[])) 109 151 true).run Tryz.prog w = .ok (.tuple #[.agg #[], .bool (u == 151)]) w := run_ta Tryz.underlying151 (fun _ => by kernel_rfl) u w
theorem ta_next (u : TypeId) (w : World) : (Instr.typeAssert (.iface u (.agg #[])) 109 154 true).run Tryz.prog w = .ok (.tuple #[.agg #[], .bool (u == 154)]) w := run_ta Tryz.underlying154 (fun _ => by kernel_rfl) u w
theorem ta_same (u : TypeId) (w : World) : (Instr.typeAssert (.iface u (.agg #[])) 109 155 true).run Tryz.prog w = .ok (.tuple #[.agg #[], .bool (u == 155)]) w := run_ta Tryz.underlying155 (fun _ => by kernel_rfl) u w
theorem ta_path (u : TypeId) (w : World) : (Instr.typeAssert (.iface u (.agg #[])) 109 156 true).run Tryz.prog w = .ok (.tuple #[.agg #[], .bool (u == 156)]) w := run_ta Tryz.underlying156 (fun _ => by kernel_rfl) u w
theorem ta_not (u : TypeId) (w : World) : (Instr.typeAssert (.iface u (.agg #[])) 109 148 true).run Tryz.prog w = .ok (.tuple #[.agg #[], .bool (u == 148)]) w := run_ta Tryz.underlying148 (fun _ => by kernel_rfl) u w
theorem ta_and (u : TypeId) (w : World) : (Instr.typeAssert (.iface u (.agg #[])) 109 114 true).run Tryz.prog w = .ok (.tuple #[.agg #[], .bool (u == 114)]) w := run_ta Tryz.underlying114 (fun _ => by kernel_rfl) u w
theorem ta_or (u : TypeId) (w : World) : (Instr.typeAssert (.iface u (.agg #[])) 109 115 true).run Tryz.prog w = .ok (.tuple #[.agg #[], .bool (u == 115)]) w := run_ta Tryz.underlying115 (fun _ => by kernel_rfl) u w
theorem ta_some (u : TypeId) (w : World) : (Instr.typeAssert (.iface u (.agg #[])) 109 152 true).run Tryz.prog w = .ok (.tuple #[.agg #[], .bool (u == 152)]) w := run_ta Tryz.underlying152 (fun _ => by kernel_rfl) u w
theorem ta_all (u : TypeId) (w : World) : (Instr.typeAssert (.iface u (.agg #[])) 109 153 true).run Tryz.prog w = .ok (.tuple #[.agg #[], .bool (u == 153)]) w := run_ta Tryz.underlying153 (fun _ => by kernel_rfl) u w

set_option maxHeartbeats 1600000 in
theorem hasFields_1 (vars k u v : Int) (a : Option Addr) (n cap : Nat) (w : World) : Calls Tryz.prog 76 #[.int .i64 vars, .agg #[.int .i64 1, .int .i64 k, .int .i64 u, .int .i64 v, .slice a n cap]] w (GaveB (.bool (fieldsB vars 1 k u v)) w) := by
  by_cases pzk : k = 0
  · have dpzk : (k == 0) = true := beq_iff_eq.2 pzk
    by_cases pzu : u = 0
    · have dpzu : (u == 0) = true := beq_iff_eq.2 pzu
      by_cases pzv : v = 0
      · have dpzv : (v == 0) = true := beq_iff_eq.2 pzv
        have HF := Lib.hid (show fieldsB vars 1 k u v = true by simp [fieldsB]; omega)
        clear pzk pzu pzv
        have ta0 := ta_true
        have ta1 := ta_var
        have ta2 := ta_reach
        have ta3 := ta_shared
        have ta4 := ta_next
        have ta5 := ta_same
        have ta6 := ta_path
        have ta7 := ta_not
        have ta8 := ta_and
        have ta9 := ta_or
        have ta10 := ta_some
        have ta11 := ta_all
        go_enter Tryz.func76, Tryz.ntmps76
        go_wp2_with fail
        refine (implFormOf _ _).mono ?_
        rintro e w1 ⟨rfl, rfl⟩
        simp only [formV, formT_1]
        go_wp2_with fail
        go_ret
        exact ⟨congrArg (fun c : Bool => Ending.returned (.bool c)) HF.out.symm, (Below.refl _ _).alloc (Nat.le_refl _) _⟩
      · have dpzv : (v == 0) = false := beq_eq_false_iff_ne.2 pzv
        have HF := Lib.hid (show fieldsB vars 1 k u v = false by simp [fieldsB]; omega)
        clear pzk pzu pzv
        have ta0 := ta_true
        have ta1 := ta_var
        have ta2 := ta_reach
        have ta3 := ta_shared
        have ta4 := ta_next
        have ta5 := ta_same
        have ta6 := ta_path
        have ta7 := ta_not
        have ta8 := ta_and
        have ta9 := ta_or
        have ta10 := ta_some
        have ta11 := ta_all
        go_enter Tryz.func76, Tryz.ntmps76
        go_wp2_with fail
        refine (implFormOf _ _).mono ?_
        rintro e w1 ⟨rfl, rfl⟩
        simp only [formV, formT_1]
        go_wp2_with fail
        go_ret
        exact ⟨congrArg (fun c : Bool => Ending.returned (.bool c)) HF.out.symm, (Below.refl _ _).alloc (Nat.le_refl _) _⟩
    · have dpzu : (u == 0) = false := beq_eq_false_iff_ne.2 pzu
      have HF := Lib.hid (show fieldsB vars 1 k u v = false by simp [fieldsB]; omega)
      clear pzk pzu
      have ta0 := ta_true
      have ta1 := ta_var
      have ta2 := ta_reach
      have ta3 := ta_shared
      have ta4 := ta_next
      have ta5 := ta_same
      have ta6 := ta_path
      have ta7 := ta_not
      have ta8 := ta_and
      have ta9 := ta_or
      have ta10 := ta_some
      have ta11 := ta_all
      go_enter Tryz.func76, Tryz.ntmps76
      go_wp2_with fail
      refine (implFormOf _ _).mono ?_
      rintro e w1 ⟨rfl, rfl⟩
      simp only [formV, formT_1]
      go_wp2_with fail
      go_ret
      exact ⟨congrArg (fun c : Bool => Ending.returned (.bool c)) HF.out.symm, (Below.refl _ _).alloc (Nat.le_refl _) _⟩
  · have dpzk : (k == 0) = false := beq_eq_false_iff_ne.2 pzk
    have HF := Lib.hid (show fieldsB vars 1 k u v = false by simp [fieldsB]; omega)
    clear pzk
    have ta0 := ta_true
    have ta1 := ta_var
    have ta2 := ta_reach
    have ta3 := ta_shared
    have ta4 := ta_next
    have ta5 := ta_same
    have ta6 := ta_path
    have ta7 := ta_not
    have ta8 := ta_and
    have ta9 := ta_or
    have ta10 := ta_some
    have ta11 := ta_all
    go_enter Tryz.func76, Tryz.ntmps76
    go_wp2_with fail
    refine (implFormOf _ _).mono ?_
    rintro e w1 ⟨rfl, rfl⟩
    simp only [formV, formT_1]
    go_wp2_with fail
    go_ret
    exact ⟨congrArg (fun c : Bool => Ending.returned (.bool c)) HF.out.symm, (Below.refl _ _).alloc (Nat.le_refl _) _⟩
set_option maxHeartbeats 1600000 in
theorem hasFields_2 (vars k u v : Int) (a : Option Addr) (n cap : Nat) (w : World) : Calls Tryz.prog 76 #[.int .i64 vars, .agg #[.int .i64 2, .int .i64 k, .int .i64 u, .int .i64 v, .slice a n cap]] w (GaveB (.bool (fieldsB vars 2 k u v)) w) := by
  by_cases plok : 0 ≤ k
  · have dplok : decide (0 ≤ k) = true := decide_eq_true plok
    by_cases phik : k < vars
    · have dphik : decide (k < vars) = true := decide_eq_true phik
      by_cases plu : 0 ≤ u ∧ u < 4
      · have HU := Lib.hid (fun W : World => logicB (decLy plu) W)
        by_cases pzv : v = 0
        · have dpzv : (v == 0) = true := beq_iff_eq.2 pzv
          have HF := Lib.hid (show fieldsB vars 2 k u v = true by simp [fieldsB]; omega)
          clear plok phik plu pzv
          have ta0 := ta_true
          have ta1 := ta_var
          have ta2 := ta_reach
          have ta3 := ta_shared
          have ta4 := ta_next
          have ta5 := ta_same
          have ta6 := ta_path
          have ta7 := ta_not
          have ta8 := ta_and
          have ta9 := ta_or
          have ta10 := ta_some
          have ta11 := ta_all
          go_enter Tryz.func76, Tryz.ntmps76
          go_wp2_with fail
          refine (implFormOf _ _).mono ?_
          rintro e w1 ⟨rfl, rfl⟩
          simp only [formV, formT_2]
          go_wp2_with fail
          refine (HU.out _).mono ?_
          rintro e w2 ⟨rfl, rfl⟩
          go_wp2_with fail
          go_ret
          exact ⟨congrArg (fun c : Bool => Ending.returned (.bool c)) HF.out.symm, (Below.refl _ _).alloc (Nat.le_refl _) _⟩
        · have dpzv : (v == 0) = false := beq_eq_false_iff_ne.2 pzv
          have HF := Lib.hid (show fieldsB vars 2 k u v = false by simp [fieldsB]; omega)
          clear plok phik plu pzv
          have ta0 := ta_true
          have ta1 := ta_var
          have ta2 := ta_reach
          have ta3 := ta_shared
          have ta4 := ta_next
          have ta5 := ta_same
          have ta6 := ta_path
          have ta7 := ta_not
          have ta8 := ta_and
          have ta9 := ta_or
          have ta10 := ta_some
          have ta11 := ta_all
          go_enter Tryz.func76, Tryz.ntmps76
          go_wp2_with fail
          refine (implFormOf _ _).mono ?_
          rintro e w1 ⟨rfl, rfl⟩
          simp only [formV, formT_2]
          go_wp2_with fail
          refine (HU.out _).mono ?_
          rintro e w2 ⟨rfl, rfl⟩
          go_wp2_with fail
          go_ret
          exact ⟨congrArg (fun c : Bool => Ending.returned (.bool c)) HF.out.symm, (Below.refl _ _).alloc (Nat.le_refl _) _⟩
      · have HU := Lib.hid (fun W : World => logicB (decL plu) W)
        have HF := Lib.hid (show fieldsB vars 2 k u v = false by simp [fieldsB]; omega)
        clear plok phik plu
        have ta0 := ta_true
        have ta1 := ta_var
        have ta2 := ta_reach
        have ta3 := ta_shared
        have ta4 := ta_next
        have ta5 := ta_same
        have ta6 := ta_path
        have ta7 := ta_not
        have ta8 := ta_and
        have ta9 := ta_or
        have ta10 := ta_some
        have ta11 := ta_all
        go_enter Tryz.func76, Tryz.ntmps76
        go_wp2_with fail
        refine (implFormOf _ _).mono ?_
        rintro e w1 ⟨rfl, rfl⟩
        simp only [formV, formT_2]
        go_wp2_with fail
        refine (HU.out _).mono ?_
        rintro e w2 ⟨rfl, rfl⟩
        go_wp2_with fail
        go_ret
        exact ⟨congrArg (fun c : Bool => Ending.returned (.bool c)) HF.out.symm, (Below.refl _ _).alloc (Nat.le_refl _) _⟩
    · have dphik : decide (k < vars) = false := decide_eq_false phik
      have HF := Lib.hid (show fieldsB vars 2 k u v = false by simp [fieldsB]; omega)
      clear plok phik
      have ta0 := ta_true
      have ta1 := ta_var
      have ta2 := ta_reach
      have ta3 := ta_shared
      have ta4 := ta_next
      have ta5 := ta_same
      have ta6 := ta_path
      have ta7 := ta_not
      have ta8 := ta_and
      have ta9 := ta_or
      have ta10 := ta_some
      have ta11 := ta_all
      go_enter Tryz.func76, Tryz.ntmps76
      go_wp2_with fail
      refine (implFormOf _ _).mono ?_
      rintro e w1 ⟨rfl, rfl⟩
      simp only [formV, formT_2]
      go_wp2_with fail
      go_ret
      exact ⟨congrArg (fun c : Bool => Ending.returned (.bool c)) HF.out.symm, (Below.refl _ _).alloc (Nat.le_refl _) _⟩
  · have dplok : decide (0 ≤ k) = false := decide_eq_false plok
    have HF := Lib.hid (show fieldsB vars 2 k u v = false by simp [fieldsB]; omega)
    clear plok
    have ta0 := ta_true
    have ta1 := ta_var
    have ta2 := ta_reach
    have ta3 := ta_shared
    have ta4 := ta_next
    have ta5 := ta_same
    have ta6 := ta_path
    have ta7 := ta_not
    have ta8 := ta_and
    have ta9 := ta_or
    have ta10 := ta_some
    have ta11 := ta_all
    go_enter Tryz.func76, Tryz.ntmps76
    go_wp2_with fail
    refine (implFormOf _ _).mono ?_
    rintro e w1 ⟨rfl, rfl⟩
    simp only [formV, formT_2]
    go_wp2_with fail
    go_ret
    exact ⟨congrArg (fun c : Bool => Ending.returned (.bool c)) HF.out.symm, (Below.refl _ _).alloc (Nat.le_refl _) _⟩
set_option maxHeartbeats 1600000 in
theorem hasFields_3 (vars k u v : Int) (a : Option Addr) (n cap : Nat) (w : World) : Calls Tryz.prog 76 #[.int .i64 vars, .agg #[.int .i64 3, .int .i64 k, .int .i64 u, .int .i64 v, .slice a n cap]] w (GaveB (.bool (fieldsB vars 3 k u v)) w) := by
  by_cases plok : 0 ≤ k
  · have dplok : decide (0 ≤ k) = true := decide_eq_true plok
    by_cases phik : k < vars
    · have dphik : decide (k < vars) = true := decide_eq_true phik
      by_cases plu : 0 ≤ u ∧ u < 4
      · have HU := Lib.hid (fun W : World => logicB (decLy plu) W)
        by_cases pzv : v = 0
        · have dpzv : (v == 0) = true := beq_iff_eq.2 pzv
          have HF := Lib.hid (show fieldsB vars 3 k u v = true by simp [fieldsB]; omega)
          clear plok phik plu pzv
          have ta0 := ta_true
          have ta1 := ta_var
          have ta2 := ta_reach
          have ta3 := ta_shared
          have ta4 := ta_next
          have ta5 := ta_same
          have ta6 := ta_path
          have ta7 := ta_not
          have ta8 := ta_and
          have ta9 := ta_or
          have ta10 := ta_some
          have ta11 := ta_all
          go_enter Tryz.func76, Tryz.ntmps76
          go_wp2_with fail
          refine (implFormOf _ _).mono ?_
          rintro e w1 ⟨rfl, rfl⟩
          simp only [formV, formT_3]
          go_wp2_with fail
          refine (HU.out _).mono ?_
          rintro e w2 ⟨rfl, rfl⟩
          go_wp2_with fail
          go_ret
          exact ⟨congrArg (fun c : Bool => Ending.returned (.bool c)) HF.out.symm, (Below.refl _ _).alloc (Nat.le_refl _) _⟩
        · have dpzv : (v == 0) = false := beq_eq_false_iff_ne.2 pzv
          have HF := Lib.hid (show fieldsB vars 3 k u v = false by simp [fieldsB]; omega)
          clear plok phik plu pzv
          have ta0 := ta_true
          have ta1 := ta_var
          have ta2 := ta_reach
          have ta3 := ta_shared
          have ta4 := ta_next
          have ta5 := ta_same
          have ta6 := ta_path
          have ta7 := ta_not
          have ta8 := ta_and
          have ta9 := ta_or
          have ta10 := ta_some
          have ta11 := ta_all
          go_enter Tryz.func76, Tryz.ntmps76
          go_wp2_with fail
          refine (implFormOf _ _).mono ?_
          rintro e w1 ⟨rfl, rfl⟩
          simp only [formV, formT_3]
          go_wp2_with fail
          refine (HU.out _).mono ?_
          rintro e w2 ⟨rfl, rfl⟩
          go_wp2_with fail
          go_ret
          exact ⟨congrArg (fun c : Bool => Ending.returned (.bool c)) HF.out.symm, (Below.refl _ _).alloc (Nat.le_refl _) _⟩
      · have HU := Lib.hid (fun W : World => logicB (decL plu) W)
        have HF := Lib.hid (show fieldsB vars 3 k u v = false by simp [fieldsB]; omega)
        clear plok phik plu
        have ta0 := ta_true
        have ta1 := ta_var
        have ta2 := ta_reach
        have ta3 := ta_shared
        have ta4 := ta_next
        have ta5 := ta_same
        have ta6 := ta_path
        have ta7 := ta_not
        have ta8 := ta_and
        have ta9 := ta_or
        have ta10 := ta_some
        have ta11 := ta_all
        go_enter Tryz.func76, Tryz.ntmps76
        go_wp2_with fail
        refine (implFormOf _ _).mono ?_
        rintro e w1 ⟨rfl, rfl⟩
        simp only [formV, formT_3]
        go_wp2_with fail
        refine (HU.out _).mono ?_
        rintro e w2 ⟨rfl, rfl⟩
        go_wp2_with fail
        go_ret
        exact ⟨congrArg (fun c : Bool => Ending.returned (.bool c)) HF.out.symm, (Below.refl _ _).alloc (Nat.le_refl _) _⟩
    · have dphik : decide (k < vars) = false := decide_eq_false phik
      have HF := Lib.hid (show fieldsB vars 3 k u v = false by simp [fieldsB]; omega)
      clear plok phik
      have ta0 := ta_true
      have ta1 := ta_var
      have ta2 := ta_reach
      have ta3 := ta_shared
      have ta4 := ta_next
      have ta5 := ta_same
      have ta6 := ta_path
      have ta7 := ta_not
      have ta8 := ta_and
      have ta9 := ta_or
      have ta10 := ta_some
      have ta11 := ta_all
      go_enter Tryz.func76, Tryz.ntmps76
      go_wp2_with fail
      refine (implFormOf _ _).mono ?_
      rintro e w1 ⟨rfl, rfl⟩
      simp only [formV, formT_3]
      go_wp2_with fail
      go_ret
      exact ⟨congrArg (fun c : Bool => Ending.returned (.bool c)) HF.out.symm, (Below.refl _ _).alloc (Nat.le_refl _) _⟩
  · have dplok : decide (0 ≤ k) = false := decide_eq_false plok
    have HF := Lib.hid (show fieldsB vars 3 k u v = false by simp [fieldsB]; omega)
    clear plok
    have ta0 := ta_true
    have ta1 := ta_var
    have ta2 := ta_reach
    have ta3 := ta_shared
    have ta4 := ta_next
    have ta5 := ta_same
    have ta6 := ta_path
    have ta7 := ta_not
    have ta8 := ta_and
    have ta9 := ta_or
    have ta10 := ta_some
    have ta11 := ta_all
    go_enter Tryz.func76, Tryz.ntmps76
    go_wp2_with fail
    refine (implFormOf _ _).mono ?_
    rintro e w1 ⟨rfl, rfl⟩
    simp only [formV, formT_3]
    go_wp2_with fail
    go_ret
    exact ⟨congrArg (fun c : Bool => Ending.returned (.bool c)) HF.out.symm, (Below.refl _ _).alloc (Nat.le_refl _) _⟩
set_option maxHeartbeats 1600000 in
theorem hasFields_4 (vars k u v : Int) (a : Option Addr) (n cap : Nat) (w : World) : Calls Tryz.prog 76 #[.int .i64 vars, .agg #[.int .i64 4, .int .i64 k, .int .i64 u, .int .i64 v, .slice a n cap]] w (GaveB (.bool (fieldsB vars 4 k u v)) w) := by
  by_cases pzk : k = 0
  · have dpzk : (k == 0) = true := beq_iff_eq.2 pzk
    by_cases plu : 0 ≤ u ∧ u < 4
    · have HU := Lib.hid (fun W : World => logicB (decLy plu) W)
      by_cases pzv : v = 0
      · have dpzv : (v == 0) = true := beq_iff_eq.2 pzv
        have HF := Lib.hid (show fieldsB vars 4 k u v = true by simp [fieldsB]; omega)
        clear pzk plu pzv
        have ta0 := ta_true
        have ta1 := ta_var
        have ta2 := ta_reach
        have ta3 := ta_shared
        have ta4 := ta_next
        have ta5 := ta_same
        have ta6 := ta_path
        have ta7 := ta_not
        have ta8 := ta_and
        have ta9 := ta_or
        have ta10 := ta_some
        have ta11 := ta_all
        go_enter Tryz.func76, Tryz.ntmps76
        go_wp2_with fail
        refine (implFormOf _ _).mono ?_
        rintro e w1 ⟨rfl, rfl⟩
        simp only [formV, formT_4]
        go_wp2_with fail
        refine (HU.out _).mono ?_
        rintro e w2 ⟨rfl, rfl⟩
        go_wp2_with fail
        go_ret
        exact ⟨congrArg (fun c : Bool => Ending.returned (.bool c)) HF.out.symm, (Below.refl _ _).alloc (Nat.le_refl _) _⟩
      · have dpzv : (v == 0) = false := beq_eq_false_iff_ne.2 pzv
        have HF := Lib.hid (show fieldsB vars 4 k u v = false by simp [fieldsB]; omega)
        clear pzk plu pzv
        have ta0 := ta_true
        have ta1 := ta_var
        have ta2 := ta_reach
        have ta3 := ta_shared
        have ta4 := ta_next
        have ta5 := ta_same
        have ta6 := ta_path
        have ta7 := ta_not
        have ta8 := ta_and
        have ta9 := ta_or
        have ta10 := ta_some
        have ta11 := ta_all
        go_enter Tryz.func76, Tryz.ntmps76
        go_wp2_with fail
        refine (implFormOf _ _).mono ?_
        rintro e w1 ⟨rfl, rfl⟩
        simp only [formV, formT_4]
        go_wp2_with fail
        refine (HU.out _).mono ?_
        rintro e w2 ⟨rfl, rfl⟩
        go_wp2_with fail
        go_ret
        exact ⟨congrArg (fun c : Bool => Ending.returned (.bool c)) HF.out.symm, (Below.refl _ _).alloc (Nat.le_refl _) _⟩
    · have HU := Lib.hid (fun W : World => logicB (decL plu) W)
      have HF := Lib.hid (show fieldsB vars 4 k u v = false by simp [fieldsB]; omega)
      clear pzk plu
      have ta0 := ta_true
      have ta1 := ta_var
      have ta2 := ta_reach
      have ta3 := ta_shared
      have ta4 := ta_next
      have ta5 := ta_same
      have ta6 := ta_path
      have ta7 := ta_not
      have ta8 := ta_and
      have ta9 := ta_or
      have ta10 := ta_some
      have ta11 := ta_all
      go_enter Tryz.func76, Tryz.ntmps76
      go_wp2_with fail
      refine (implFormOf _ _).mono ?_
      rintro e w1 ⟨rfl, rfl⟩
      simp only [formV, formT_4]
      go_wp2_with fail
      refine (HU.out _).mono ?_
      rintro e w2 ⟨rfl, rfl⟩
      go_wp2_with fail
      go_ret
      exact ⟨congrArg (fun c : Bool => Ending.returned (.bool c)) HF.out.symm, (Below.refl _ _).alloc (Nat.le_refl _) _⟩
  · have dpzk : (k == 0) = false := beq_eq_false_iff_ne.2 pzk
    have HF := Lib.hid (show fieldsB vars 4 k u v = false by simp [fieldsB]; omega)
    clear pzk
    have ta0 := ta_true
    have ta1 := ta_var
    have ta2 := ta_reach
    have ta3 := ta_shared
    have ta4 := ta_next
    have ta5 := ta_same
    have ta6 := ta_path
    have ta7 := ta_not
    have ta8 := ta_and
    have ta9 := ta_or
    have ta10 := ta_some
    have ta11 := ta_all
    go_enter Tryz.func76, Tryz.ntmps76
    go_wp2_with fail
    refine (implFormOf _ _).mono ?_
    rintro e w1 ⟨rfl, rfl⟩
    simp only [formV, formT_4]
    go_wp2_with fail
    go_ret
    exact ⟨congrArg (fun c : Bool => Ending.returned (.bool c)) HF.out.symm, (Below.refl _ _).alloc (Nat.le_refl _) _⟩
set_option maxHeartbeats 1600000 in
theorem hasFields_5 (vars k u v : Int) (a : Option Addr) (n cap : Nat) (w : World) : Calls Tryz.prog 76 #[.int .i64 vars, .agg #[.int .i64 5, .int .i64 k, .int .i64 u, .int .i64 v, .slice a n cap]] w (GaveB (.bool (fieldsB vars 5 k u v)) w) := by
  by_cases pzk : k = 0
  · have dpzk : (k == 0) = true := beq_iff_eq.2 pzk
    by_cases plu : 0 ≤ u ∧ u < 4
    · have HU := Lib.hid (fun W : World => logicB (decLy plu) W)
      by_cases plv : 0 ≤ v ∧ v < 4
      · have HV := Lib.hid (fun W : World => logicB (decLy plv) W)
        have HF := Lib.hid (show fieldsB vars 5 k u v = true by simp [fieldsB]; omega)
        clear pzk plu plv
        have ta0 := ta_true
        have ta1 := ta_var
        have ta2 := ta_reach
        have ta3 := ta_shared
        have ta4 := ta_next
        have ta5 := ta_same
        have ta6 := ta_path
        have ta7 := ta_not
        have ta8 := ta_and
        have ta9 := ta_or
        have ta10 := ta_some
        have ta11 := ta_all
        go_enter Tryz.func76, Tryz.ntmps76
        go_wp2_with fail
        refine (implFormOf _ _).mono ?_
        rintro e w1 ⟨rfl, rfl⟩
        simp only [formV, formT_5]
        go_wp2_with fail
        refine (HU.out _).mono ?_
        rintro e w2 ⟨rfl, rfl⟩
        go_wp2_with fail
        refine (HV.out _).mono ?_
        rintro e w2 ⟨rfl, rfl⟩
        go_wp2_with fail
        go_ret
        exact ⟨congrArg (fun c : Bool => Ending.returned (.bool c)) HF.out.symm, (Below.refl _ _).alloc (Nat.le_refl _) _⟩
      · have HV := Lib.hid (fun W : World => logicB (decL plv) W)
        have HF := Lib.hid (show fieldsB vars 5 k u v = false by simp [fieldsB]; omega)
        clear pzk plu plv
        have ta0 := ta_true
        have ta1 := ta_var
        have ta2 := ta_reach
        have ta3 := ta_shared
        have ta4 := ta_next
        have ta5 := ta_same
        have ta6 := ta_path
        have ta7 := ta_not
        have ta8 := ta_and
        have ta9 := ta_or
        have ta10 := ta_some
        have ta11 := ta_all
        go_enter Tryz.func76, Tryz.ntmps76
        go_wp2_with fail
        refine (implFormOf _ _).mono ?_
        rintro e w1 ⟨rfl, rfl⟩
        simp only [formV, formT_5]
        go_wp2_with fail
        refine (HU.out _).mono ?_
        rintro e w2 ⟨rfl, rfl⟩
        go_wp2_with fail
        refine (HV.out _).mono ?_
        rintro e w2 ⟨rfl, rfl⟩
        go_wp2_with fail
        go_ret
        exact ⟨congrArg (fun c : Bool => Ending.returned (.bool c)) HF.out.symm, (Below.refl _ _).alloc (Nat.le_refl _) _⟩
    · have HU := Lib.hid (fun W : World => logicB (decL plu) W)
      have HF := Lib.hid (show fieldsB vars 5 k u v = false by simp [fieldsB]; omega)
      clear pzk plu
      have ta0 := ta_true
      have ta1 := ta_var
      have ta2 := ta_reach
      have ta3 := ta_shared
      have ta4 := ta_next
      have ta5 := ta_same
      have ta6 := ta_path
      have ta7 := ta_not
      have ta8 := ta_and
      have ta9 := ta_or
      have ta10 := ta_some
      have ta11 := ta_all
      go_enter Tryz.func76, Tryz.ntmps76
      go_wp2_with fail
      refine (implFormOf _ _).mono ?_
      rintro e w1 ⟨rfl, rfl⟩
      simp only [formV, formT_5]
      go_wp2_with fail
      refine (HU.out _).mono ?_
      rintro e w2 ⟨rfl, rfl⟩
      go_wp2_with fail
      go_ret
      exact ⟨congrArg (fun c : Bool => Ending.returned (.bool c)) HF.out.symm, (Below.refl _ _).alloc (Nat.le_refl _) _⟩
  · have dpzk : (k == 0) = false := beq_eq_false_iff_ne.2 pzk
    have HF := Lib.hid (show fieldsB vars 5 k u v = false by simp [fieldsB]; omega)
    clear pzk
    have ta0 := ta_true
    have ta1 := ta_var
    have ta2 := ta_reach
    have ta3 := ta_shared
    have ta4 := ta_next
    have ta5 := ta_same
    have ta6 := ta_path
    have ta7 := ta_not
    have ta8 := ta_and
    have ta9 := ta_or
    have ta10 := ta_some
    have ta11 := ta_all
    go_enter Tryz.func76, Tryz.ntmps76
    go_wp2_with fail
    refine (implFormOf _ _).mono ?_
    rintro e w1 ⟨rfl, rfl⟩
    simp only [formV, formT_5]
    go_wp2_with fail
    go_ret
    exact ⟨congrArg (fun c : Bool => Ending.returned (.bool c)) HF.out.symm, (Below.refl _ _).alloc (Nat.le_refl _) _⟩
set_option maxHeartbeats 1600000 in
theorem hasFields_6 (vars k u v : Int) (a : Option Addr) (n cap : Nat) (w : World) : Calls Tryz.prog 76 #[.int .i64 vars, .agg #[.int .i64 6, .int .i64 k, .int .i64 u, .int .i64 v, .slice a n cap]] w (GaveB (.bool (fieldsB vars 6 k u v)) w) := by
  by_cases pzk : k = 0
  · have dpzk : (k == 0) = true := beq_iff_eq.2 pzk
    by_cases plu : 0 ≤ u ∧ u < 4
    · have HU := Lib.hid (fun W : World => logicB (decLy plu) W)
      by_cases plv : 0 ≤ v ∧ v < 4
      · have HV := Lib.hid (fun W : World => logicB (decLy plv) W)
        have HF := Lib.hid (show fieldsB vars 6 k u v = true by simp [fieldsB]; omega)
        clear pzk plu plv
        have ta0 := ta_true
        have ta1 := ta_var
        have ta2 := ta_reach
        have ta3 := ta_shared
        have ta4 := ta_next
        have ta5 := ta_same
        have ta6 := ta_path
        have ta7 := ta_not
        have ta8 := ta_and
        have ta9 := ta_or
        have ta10 := ta_some
        have ta11 := ta_all
        go_enter Tryz.func76, Tryz.ntmps76
        go_wp2_with fail
        refine (implFormOf _ _).mono ?_
        rintro e w1 ⟨rfl, rfl⟩
        simp only [formV, formT_6]
        go_wp2_with fail
        refine (HU.out _).mono ?_
        rintro e w2 ⟨rfl, rfl⟩
        go_wp2_with fail
        refine (HV.out _).mono ?_
        rintro e w2 ⟨rfl, rfl⟩
        go_wp2_with fail
        go_ret
        exact ⟨congrArg (fun c : Bool => Ending.returned (.bool c)) HF.out.symm, (Below.refl _ _).alloc (Nat.le_refl _) _⟩
      · have HV := Lib.hid (fun W : World => logicB (decL plv) W)
        have HF := Lib.hid (show fieldsB vars 6 k u v = false by simp [fieldsB]; omega)
        clear pzk plu plv
        have ta0 := ta_true
        have ta1 := ta_var
        have ta2 := ta_reach
        have ta3 := ta_shared
        have ta4 := ta_next
        have ta5 := ta_same
        have ta6 := ta_path
        have ta7 := ta_not
        have ta8 := ta_and
        have ta9 := ta_or
        have ta10 := ta_some
        have ta11 := ta_all
        go_enter Tryz.func76, Tryz.ntmps76
        go_wp2_with fail
        refine (implFormOf _ _).mono ?_
        rintro e w1 ⟨rfl, rfl⟩
        simp only [formV, formT_6]
        go_wp2_with fail
        refine (HU.out _).mono ?_
        rintro e w2 ⟨rfl, rfl⟩
        go_wp2_with fail
        refine (HV.out _).mono ?_
        rintro e w2 ⟨rfl, rfl⟩
        go_wp2_with fail
        go_ret
        exact ⟨congrArg (fun c : Bool => Ending.returned (.bool c)) HF.out.symm, (Below.refl _ _).alloc (Nat.le_refl _) _⟩
    · have HU := Lib.hid (fun W : World => logicB (decL plu) W)
      have HF := Lib.hid (show fieldsB vars 6 k u v = false by simp [fieldsB]; omega)
      clear pzk plu
      have ta0 := ta_true
      have ta1 := ta_var
      have ta2 := ta_reach
      have ta3 := ta_shared
      have ta4 := ta_next
      have ta5 := ta_same
      have ta6 := ta_path
      have ta7 := ta_not
      have ta8 := ta_and
      have ta9 := ta_or
      have ta10 := ta_some
      have ta11 := ta_all
      go_enter Tryz.func76, Tryz.ntmps76
      go_wp2_with fail
      refine (implFormOf _ _).mono ?_
      rintro e w1 ⟨rfl, rfl⟩
      simp only [formV, formT_6]
      go_wp2_with fail
      refine (HU.out _).mono ?_
      rintro e w2 ⟨rfl, rfl⟩
      go_wp2_with fail
      go_ret
      exact ⟨congrArg (fun c : Bool => Ending.returned (.bool c)) HF.out.symm, (Below.refl _ _).alloc (Nat.le_refl _) _⟩
  · have dpzk : (k == 0) = false := beq_eq_false_iff_ne.2 pzk
    have HF := Lib.hid (show fieldsB vars 6 k u v = false by simp [fieldsB]; omega)
    clear pzk
    have ta0 := ta_true
    have ta1 := ta_var
    have ta2 := ta_reach
    have ta3 := ta_shared
    have ta4 := ta_next
    have ta5 := ta_same
    have ta6 := ta_path
    have ta7 := ta_not
    have ta8 := ta_and
    have ta9 := ta_or
    have ta10 := ta_some
    have ta11 := ta_all
    go_enter Tryz.func76, Tryz.ntmps76
    go_wp2_with fail
    refine (implFormOf _ _).mono ?_
    rintro e w1 ⟨rfl, rfl⟩
    simp only [formV, formT_6]
    go_wp2_with fail
    go_ret
    exact ⟨congrArg (fun c : Bool => Ending.returned (.bool c)) HF.out.symm, (Below.refl _ _).alloc (Nat.le_refl _) _⟩
set_option maxHeartbeats 1600000 in
theorem hasFields_7 (vars k u v : Int) (a : Option Addr) (n cap : Nat) (w : World) : Calls Tryz.prog 76 #[.int .i64 vars, .agg #[.int .i64 7, .int .i64 k, .int .i64 u, .int .i64 v, .slice a n cap]] w (GaveB (.bool (fieldsB vars 7 k u v)) w) := by
  by_cases pzk : k = 0
  · have dpzk : (k == 0) = true := beq_iff_eq.2 pzk
    by_cases plu : 0 ≤ u ∧ u < 4
    · have HU := Lib.hid (fun W : World => logicB (decLy plu) W)
      by_cases plv : 0 ≤ v ∧ v < 4
      · have HV := Lib.hid (fun W : World => logicB (decLy plv) W)
        have HF := Lib.hid (show fieldsB vars 7 k u v = true by simp [fieldsB]; omega)
        clear pzk plu plv
        have ta0 := ta_true
        have ta1 := ta_var
        have ta2 := ta_reach
        have ta3 := ta_shared
        have ta4 := ta_next
        have ta5 := ta_same
        have ta6 := ta_path
        have ta7 := ta_not
        have ta8 := ta_and
        have ta9 := ta_or
        have ta10 := ta_some
        have ta11 := ta_all
        go_enter Tryz.func76, Tryz.ntmps76
        go_wp2_with fail
        refine (implFormOf _ _).mono ?_
        rintro e w1 ⟨rfl, rfl⟩
        simp only [formV, formT_7]
        go_wp2_with fail
        refine (HU.out _).mono ?_
        rintro e w2 ⟨rfl, rfl⟩
        go_wp2_with fail
        refine (HV.out _).mono ?_
        rintro e w2 ⟨rfl, rfl⟩
        go_wp2_with fail
        go_ret
        exact ⟨congrArg (fun c : Bool => Ending.returned (.bool c)) HF.out.symm, (Below.refl _ _).alloc (Nat.le_refl _) _⟩
      · have HV := Lib.hid (fun W : World => logicB (decL plv) W)
        have HF := Lib.hid (show fieldsB vars 7 k u v = false by simp [fieldsB]; omega)
        clear pzk plu plv
        have ta0 := ta_true
        have ta1 := ta_var
        have ta2 := ta_reach
        have ta3 := ta_shared
        have ta4 := ta_next
        have ta5 := ta_same
        have ta6 := ta_path
        have ta7 := ta_not
        have ta8 := ta_and
        have ta9 := ta_or
        have ta10 := ta_some
        have ta11 := ta_all
        go_enter Tryz.func76, Tryz.ntmps76
        go_wp2_with fail
        refine (implFormOf _ _).mono ?_
        rintro e w1 ⟨rfl, rfl⟩
        simp only [formV, formT_7]
        go_wp2_with fail
        refine (HU.out _).mono ?_
        rintro e w2 ⟨rfl, rfl⟩
        go_wp2_with fail
        refine (HV.out _).mono ?_
        rintro e w2 ⟨rfl, rfl⟩
        go_wp2_with fail
        go_ret
        exact ⟨congrArg (fun c : Bool => Ending.returned (.bool c)) HF.out.symm, (Below.refl _ _).alloc (Nat.le_refl _) _⟩
    · have HU := Lib.hid (fun W : World => logicB (decL plu) W)
      have HF := Lib.hid (show fieldsB vars 7 k u v = false by simp [fieldsB]; omega)
      clear pzk plu
      have ta0 := ta_true
      have ta1 := ta_var
      have ta2 := ta_reach
      have ta3 := ta_shared
      have ta4 := ta_next
      have ta5 := ta_same
      have ta6 := ta_path
      have ta7 := ta_not
      have ta8 := ta_and
      have ta9 := ta_or
      have ta10 := ta_some
      have ta11 := ta_all
      go_enter Tryz.func76, Tryz.ntmps76
      go_wp2_with fail
      refine (implFormOf _ _).mono ?_
      rintro e w1 ⟨rfl, rfl⟩
      simp only [formV, formT_7]
      go_wp2_with fail
      refine (HU.out _).mono ?_
      rintro e w2 ⟨rfl, rfl⟩
      go_wp2_with fail
      go_ret
      exact ⟨congrArg (fun c : Bool => Ending.returned (.bool c)) HF.out.symm, (Below.refl _ _).alloc (Nat.le_refl _) _⟩
  · have dpzk : (k == 0) = false := beq_eq_false_iff_ne.2 pzk
    have HF := Lib.hid (show fieldsB vars 7 k u v = false by simp [fieldsB]; omega)
    clear pzk
    have ta0 := ta_true
    have ta1 := ta_var
    have ta2 := ta_reach
    have ta3 := ta_shared
    have ta4 := ta_next
    have ta5 := ta_same
    have ta6 := ta_path
    have ta7 := ta_not
    have ta8 := ta_and
    have ta9 := ta_or
    have ta10 := ta_some
    have ta11 := ta_all
    go_enter Tryz.func76, Tryz.ntmps76
    go_wp2_with fail
    refine (implFormOf _ _).mono ?_
    rintro e w1 ⟨rfl, rfl⟩
    simp only [formV, formT_7]
    go_wp2_with fail
    go_ret
    exact ⟨congrArg (fun c : Bool => Ending.returned (.bool c)) HF.out.symm, (Below.refl _ _).alloc (Nat.le_refl _) _⟩
set_option maxHeartbeats 1600000 in
theorem hasFields_8 (vars k u v : Int) (a : Option Addr) (n cap : Nat) (w : World) : Calls Tryz.prog 76 #[.int .i64 vars, .agg #[.int .i64 8, .int .i64 k, .int .i64 u, .int .i64 v, .slice a n cap]] w (GaveB (.bool (fieldsB vars 8 k u v)) w) := by
  by_cases pzk : k = 0
  · have dpzk : (k == 0) = true := beq_iff_eq.2 pzk
    by_cases pzu : u = 0
    · have dpzu : (u == 0) = true := beq_iff_eq.2 pzu
      by_cases pzv : v = 0
      · have dpzv : (v == 0) = true := beq_iff_eq.2 pzv
        have HF := Lib.hid (show fieldsB vars 8 k u v = true by simp [fieldsB]; omega)
        clear pzk pzu pzv
        have ta0 := ta_true
        have ta1 := ta_var
        have ta2 := ta_reach
        have ta3 := ta_shared
        have ta4 := ta_next
        have ta5 := ta_same
        have ta6 := ta_path
        have ta7 := ta_not
        have ta8 := ta_and
        have ta9 := ta_or
        have ta10 := ta_some
        have ta11 := ta_all
        go_enter Tryz.func76, Tryz.ntmps76
        go_wp2_with fail
        refine (implFormOf _ _).mono ?_
        rintro e w1 ⟨rfl, rfl⟩
        simp only [formV, formT_8]
        go_wp2_with fail
        go_ret
        exact ⟨congrArg (fun c : Bool => Ending.returned (.bool c)) HF.out.symm, (Below.refl _ _).alloc (Nat.le_refl _) _⟩
      · have dpzv : (v == 0) = false := beq_eq_false_iff_ne.2 pzv
        have HF := Lib.hid (show fieldsB vars 8 k u v = false by simp [fieldsB]; omega)
        clear pzk pzu pzv
        have ta0 := ta_true
        have ta1 := ta_var
        have ta2 := ta_reach
        have ta3 := ta_shared
        have ta4 := ta_next
        have ta5 := ta_same
        have ta6 := ta_path
        have ta7 := ta_not
        have ta8 := ta_and
        have ta9 := ta_or
        have ta10 := ta_some
        have ta11 := ta_all
        go_enter Tryz.func76, Tryz.ntmps76
        go_wp2_with fail
        refine (implFormOf _ _).mono ?_
        rintro e w1 ⟨rfl, rfl⟩
        simp only [formV, formT_8]
        go_wp2_with fail
        go_ret
        exact ⟨congrArg (fun c : Bool => Ending.returned (.bool c)) HF.out.symm, (Below.refl _ _).alloc (Nat.le_refl _) _⟩
    · have dpzu : (u == 0) = false := beq_eq_false_iff_ne.2 pzu
      have HF := Lib.hid (show fieldsB vars 8 k u v = false by simp [fieldsB]; omega)
      clear pzk pzu
      have ta0 := ta_true
      have ta1 := ta_var
      have ta2 := ta_reach
      have ta3 := ta_shared
      have ta4 := ta_next
      have ta5 := ta_same
      have ta6 := ta_path
      have ta7 := ta_not
      have ta8 := ta_and
      have ta9 := ta_or
      have ta10 := ta_some
      have ta11 := ta_all
      go_enter Tryz.func76, Tryz.ntmps76
      go_wp2_with fail
      refine (implFormOf _ _).mono ?_
      rintro e w1 ⟨rfl, rfl⟩
      simp only [formV, formT_8]
      go_wp2_with fail
      go_ret
      exact ⟨congrArg (fun c : Bool => Ending.returned (.bool c)) HF.out.symm, (Below.refl _ _).alloc (Nat.le_refl _) _⟩
  · have dpzk : (k == 0) = false := beq_eq_false_iff_ne.2 pzk
    have HF := Lib.hid (show fieldsB vars 8 k u v = false by simp [fieldsB]; omega)
    clear pzk
    have ta0 := ta_true
    have ta1 := ta_var
    have ta2 := ta_reach
    have ta3 := ta_shared
    have ta4 := ta_next
    have ta5 := ta_same
    have ta6 := ta_path
    have ta7 := ta_not
    have ta8 := ta_and
    have ta9 := ta_or
    have ta10 := ta_some
    have ta11 := ta_all
    go_enter Tryz.func76, Tryz.ntmps76
    go_wp2_with fail
    refine (implFormOf _ _).mono ?_
    rintro e w1 ⟨rfl, rfl⟩
    simp only [formV, formT_8]
    go_wp2_with fail
    go_ret
    exact ⟨congrArg (fun c : Bool => Ending.returned (.bool c)) HF.out.symm, (Below.refl _ _).alloc (Nat.le_refl _) _⟩
set_option maxHeartbeats 1600000 in
theorem hasFields_9 (vars k u v : Int) (a : Option Addr) (n cap : Nat) (w : World) : Calls Tryz.prog 76 #[.int .i64 vars, .agg #[.int .i64 9, .int .i64 k, .int .i64 u, .int .i64 v, .slice a n cap]] w (GaveB (.bool (fieldsB vars 9 k u v)) w) := by
  by_cases pzk : k = 0
  · have dpzk : (k == 0) = true := beq_iff_eq.2 pzk
    by_cases pzu : u = 0
    · have dpzu : (u == 0) = true := beq_iff_eq.2 pzu
      by_cases pzv : v = 0
      · have dpzv : (v == 0) = true := beq_iff_eq.2 pzv
        have HF := Lib.hid (show fieldsB vars 9 k u v = true by simp [fieldsB]; omega)
        clear pzk pzu pzv
        have ta0 := ta_true
        have ta1 := ta_var
        have ta2 := ta_reach
        have ta3 := ta_shared
        have ta4 := ta_next
        have ta5 := ta_same
        have ta6 := ta_path
        have ta7 := ta_not
        have ta8 := ta_and
        have ta9 := ta_or
        have ta10 := ta_some
        have ta11 := ta_all
        go_enter Tryz.func76, Tryz.ntmps76
        go_wp2_with fail
        refine (implFormOf _ _).mono ?_
        rintro e w1 ⟨rfl, rfl⟩
        simp only [formV, formT_9]
        go_wp2_with fail
        go_ret
        exact ⟨congrArg (fun c : Bool => Ending.returned (.bool c)) HF.out.symm, (Below.refl _ _).alloc (Nat.le_refl _) _⟩
      · have dpzv : (v == 0) = false := beq_eq_false_iff_ne.2 pzv
        have HF := Lib.hid (show fieldsB vars 9 k u v = false by simp [fieldsB]; omega)
        clear pzk pzu pzv
        have ta0 := ta_true
        have ta1 := ta_var
        have ta2 := ta_reach
        have ta3 := ta_shared
        have ta4 := ta_next
        have ta5 := ta_same
        have ta6 := ta_path
        have ta7 := ta_not
        have ta8 := ta_and
        have ta9 := ta_or
        have ta10 := ta_some
        have ta11 := ta_all
        go_enter Tryz.func76, Tryz.ntmps76
        go_wp2_with fail
        refine (implFormOf _ _).mono ?_
        rintro e w1 ⟨rfl, rfl⟩
        simp only [formV, formT_9]
        go_wp2_with fail
        go_ret
        exact ⟨congrArg (fun c : Bool => Ending.returned (.bool c)) HF.out.symm, (Below.refl _ _).alloc (Nat.le_refl _) _⟩
    · have dpzu : (u == 0) = false := beq_eq_false_iff_ne.2 pzu
      have HF := Lib.hid (show fieldsB vars 9 k u v = false by simp [fieldsB]; omega)
      clear pzk pzu
      have ta0 := ta_true
      have ta1 := ta_var
      have ta2 := ta_reach
      have ta3 := ta_shared
      have ta4 := ta_next
      have ta5 := ta_same
      have ta6 := ta_path
      have ta7 := ta_not
      have ta8 := ta_and
      have ta9 := ta_or
      have ta10 := ta_some
      have ta11 := ta_all
      go_enter Tryz.func76, Tryz.ntmps76
      go_wp2_with fail
      refine (implFormOf _ _).mono ?_
      rintro e w1 ⟨rfl, rfl⟩
      simp only [formV, formT_9]
      go_wp2_with fail
      go_ret
      exact ⟨congrArg (fun c : Bool => Ending.returned (.bool c)) HF.out.symm, (Below.refl _ _).alloc (Nat.le_refl _) _⟩
  · have dpzk : (k == 0) = false := beq_eq_false_iff_ne.2 pzk
    have HF := Lib.hid (show fieldsB vars 9 k u v = false by simp [fieldsB]; omega)
    clear pzk
    have ta0 := ta_true
    have ta1 := ta_var
    have ta2 := ta_reach
    have ta3 := ta_shared
    have ta4 := ta_next
    have ta5 := ta_same
    have ta6 := ta_path
    have ta7 := ta_not
    have ta8 := ta_and
    have ta9 := ta_or
    have ta10 := ta_some
    have ta11 := ta_all
    go_enter Tryz.func76, Tryz.ntmps76
    go_wp2_with fail
    refine (implFormOf _ _).mono ?_
    rintro e w1 ⟨rfl, rfl⟩
    simp only [formV, formT_9]
    go_wp2_with fail
    go_ret
    exact ⟨congrArg (fun c : Bool => Ending.returned (.bool c)) HF.out.symm, (Below.refl _ _).alloc (Nat.le_refl _) _⟩
set_option maxHeartbeats 1600000 in
theorem hasFields_10 (vars k u v : Int) (a : Option Addr) (n cap : Nat) (w : World) : Calls Tryz.prog 76 #[.int .i64 vars, .agg #[.int .i64 10, .int .i64 k, .int .i64 u, .int .i64 v, .slice a n cap]] w (GaveB (.bool (fieldsB vars 10 k u v)) w) := by
  by_cases pzk : k = 0
  · have dpzk : (k == 0) = true := beq_iff_eq.2 pzk
    by_cases pzu : u = 0
    · have dpzu : (u == 0) = true := beq_iff_eq.2 pzu
      by_cases pzv : v = 0
      · have dpzv : (v == 0) = true := beq_iff_eq.2 pzv
        have HF := Lib.hid (show fieldsB vars 10 k u v = true by simp [fieldsB]; omega)
        clear pzk pzu pzv
        have ta0 := ta_true
        have ta1 := ta_var
        have ta2 := ta_reach
        have ta3 := ta_shared
        have ta4 := ta_next
        have ta5 := ta_same
        have ta6 := ta_path
        have ta7 := ta_not
        have ta8 := ta_and
        have ta9 := ta_or
        have ta10 := ta_some
        have ta11 := ta_all
        go_enter Tryz.func76, Tryz.ntmps76
        go_wp2_with fail
        refine (implFormOf _ _).mono ?_
        rintro e w1 ⟨rfl, rfl⟩
        simp only [formV, formT_10]
        go_wp2_with fail
        go_ret
        exact ⟨congrArg (fun c : Bool => Ending.returned (.bool c)) HF.out.symm, (Below.refl _ _).alloc (Nat.le_refl _) _⟩
      · have dpzv : (v == 0) = false := beq_eq_false_iff_ne.2 pzv
        have HF := Lib.hid (show fieldsB vars 10 k u v = false by simp [fieldsB]; omega)
        clear pzk pzu pzv
        have ta0 := ta_true
        have ta1 := ta_var
        have ta2 := ta_reach
        have ta3 := ta_shared
        have ta4 := ta_next
        have ta5 := ta_same
        have ta6 := ta_path
        have ta7 := ta_not
        have ta8 := ta_and
        have ta9 := ta_or
        have ta10 := ta_some
        have ta11 := ta_all
        go_enter Tryz.func76, Tryz.ntmps76
        go_wp2_with fail
        refine (implFormOf _ _).mono ?_
        rintro e w1 ⟨rfl, rfl⟩
        simp only [formV, formT_10]
        go_wp2_with fail
        go_ret
        exact ⟨congrArg (fun c : Bool => Ending.returned (.bool c)) HF.out.symm, (Below.refl _ _).alloc (Nat.le_refl _) _⟩
    · have dpzu : (u == 0) = false := beq_eq_false_iff_ne.2 pzu
      have HF := Lib.hid (show fieldsB vars 10 k u v = false by simp [fieldsB]; omega)
      clear pzk pzu
      have ta0 := ta_true
      have ta1 := ta_var
      have ta2 := ta_reach
      have ta3 := ta_shared
      have ta4 := ta_next
      have ta5 := ta_same
      have ta6 := ta_path
      have ta7 := ta_not
      have ta8 := ta_and
      have ta9 := ta_or
      have ta10 := ta_some
      have ta11 := ta_all
      go_enter Tryz.func76, Tryz.ntmps76
      go_wp2_with fail
      refine (implFormOf _ _).mono ?_
      rintro e w1 ⟨rfl, rfl⟩
      simp only [formV, formT_10]
      go_wp2_with fail
      go_ret
      exact ⟨congrArg (fun c : Bool => Ending.returned (.bool c)) HF.out.symm, (Below.refl _ _).alloc (Nat.le_refl _) _⟩
  · have dpzk : (k == 0) = false := beq_eq_false_iff_ne.2 pzk
    have HF := Lib.hid (show fieldsB vars 10 k u v = false by simp [fieldsB]; omega)
    clear pzk
    have ta0 := ta_true
    have ta1 := ta_var
    have ta2 := ta_reach
    have ta3 := ta_shared
    have ta4 := ta_next
    have ta5 := ta_same
    have ta6 := ta_path
    have ta7 := ta_not
    have ta8 := ta_and
    have ta9 := ta_or
    have ta10 := ta_some
    have ta11 := ta_all
    go_enter Tryz.func76, Tryz.ntmps76
    go_wp2_with fail
    refine (implFormOf _ _).mono ?_
    rintro e w1 ⟨rfl, rfl⟩
    simp only [formV, formT_10]
    go_wp2_with fail
    go_ret
    exact ⟨congrArg (fun c : Bool => Ending.returned (.bool c)) HF.out.symm, (Below.refl _ _).alloc (Nat.le_refl _) _⟩
set_option maxHeartbeats 1600000 in
theorem hasFields_11 (vars k u v : Int) (a : Option Addr) (n cap : Nat) (w : World) : Calls Tryz.prog 76 #[.int .i64 vars, .agg #[.int .i64 11, .int .i64 k, .int .i64 u, .int .i64 v, .slice a n cap]] w (GaveB (.bool (fieldsB vars 11 k u v)) w) := by
  by_cases pzk : k = 0
  · have dpzk : (k == 0) = true := beq_iff_eq.2 pzk
    by_cases plu : 0 ≤ u ∧ u < 4
    · have HU := Lib.hid (fun W : World => logicB (decLy plu) W)
      by_cases pzv : v = 0
      · have dpzv : (v == 0) = true := beq_iff_eq.2 pzv
        have HF := Lib.hid (show fieldsB vars 11 k u v = true by simp [fieldsB]; omega)
        clear pzk plu pzv
        have ta0 := ta_true
        have ta1 := ta_var
        have ta2 := ta_reach
        have ta3 := ta_shared
        have ta4 := ta_next
        have ta5 := ta_same
        have ta6 := ta_path
        have ta7 := ta_not
        have ta8 := ta_and
        have ta9 := ta_or
        have ta10 := ta_some
        have ta11 := ta_all
        go_enter Tryz.func76, Tryz.ntmps76
        go_wp2_with fail
        refine (implFormOf _ _).mono ?_
        rintro e w1 ⟨rfl, rfl⟩
        simp only [formV, formT_11]
        go_wp2_with fail
        refine (HU.out _).mono ?_
        rintro e w2 ⟨rfl, rfl⟩
        go_wp2_with fail
        go_ret
        exact ⟨congrArg (fun c : Bool => Ending.returned (.bool c)) HF.out.symm, (Below.refl _ _).alloc (Nat.le_refl _) _⟩
      · have dpzv : (v == 0) = false := beq_eq_false_iff_ne.2 pzv
        have HF := Lib.hid (show fieldsB vars 11 k u v = false by simp [fieldsB]; omega)
        clear pzk plu pzv
        have ta0 := ta_true
        have ta1 := ta_var
        have ta2 := ta_reach
        have ta3 := ta_shared
        have ta4 := ta_next
        have ta5 := ta_same
        have ta6 := ta_path
        have ta7 := ta_not
        have ta8 := ta_and
        have ta9 := ta_or
        have ta10 := ta_some
        have ta11 := ta_all
        go_enter Tryz.func76, Tryz.ntmps76
        go_wp2_with fail
        refine (implFormOf _ _).mono ?_
        rintro e w1 ⟨rfl, rfl⟩
        simp only [formV, formT_11]
        go_wp2_with fail
        refine (HU.out _).mono ?_
        rintro e w2 ⟨rfl, rfl⟩
        go_wp2_with fail
        go_ret
        exact ⟨congrArg (fun c : Bool => Ending.returned (.bool c)) HF.out.symm, (Below.refl _ _).alloc (Nat.le_refl _) _⟩
    · have HU := Lib.hid (fun W : World => logicB (decL plu) W)
      have HF := Lib.hid (show fieldsB vars 11 k u v = false by simp [fieldsB]; omega)
      clear pzk plu
      have ta0 := ta_true
      have ta1 := ta_var
      have ta2 := ta_reach
      have ta3 := ta_shared
      have ta4 := ta_next
      have ta5 := ta_same
      have ta6 := ta_path
      have ta7 := ta_not
      have ta8 := ta_and
      have ta9 := ta_or
      have ta10 := ta_some
      have ta11 := ta_all
      go_enter Tryz.func76, Tryz.ntmps76
      go_wp2_with fail
      refine (implFormOf _ _).mono ?_
      rintro e w1 ⟨rfl, rfl⟩
      simp only [formV, formT_11]
      go_wp2_with fail
      refine (HU.out _).mono ?_
      rintro e w2 ⟨rfl, rfl⟩
      go_wp2_with fail
      go_ret
      exact ⟨congrArg (fun c : Bool => Ending.returned (.bool c)) HF.out.symm, (Below.refl _ _).alloc (Nat.le_refl _) _⟩
  · have dpzk : (k == 0) = false := beq_eq_false_iff_ne.2 pzk
    have HF := Lib.hid (show fieldsB vars 11 k u v = false by simp [fieldsB]; omega)
    clear pzk
    have ta0 := ta_true
    have ta1 := ta_var
    have ta2 := ta_reach
    have ta3 := ta_shared
    have ta4 := ta_next
    have ta5 := ta_same
    have ta6 := ta_path
    have ta7 := ta_not
    have ta8 := ta_and
    have ta9 := ta_or
    have ta10 := ta_some
    have ta11 := ta_all
    go_enter Tryz.func76, Tryz.ntmps76
    go_wp2_with fail
    refine (implFormOf _ _).mono ?_
    rintro e w1 ⟨rfl, rfl⟩
    simp only [formV, formT_11]
    go_wp2_with fail
    go_ret
    exact ⟨congrArg (fun c : Bool => Ending.returned (.bool c)) HF.out.symm, (Below.refl _ _).alloc (Nat.le_refl _) _⟩
set_option maxHeartbeats 1600000 in
theorem hasFields_12 (vars k u v : Int) (a : Option Addr) (n cap : Nat) (w : World) : Calls Tryz.prog 76 #[.int .i64 vars, .agg #[.int .i64 12, .int .i64 k, .int .i64 u, .int .i64 v, .slice a n cap]] w (GaveB (.bool (fieldsB vars 12 k u v)) w) := by
  by_cases pzk : k = 0
  · have dpzk : (k == 0) = true := beq_iff_eq.2 pzk
    by_cases plu : 0 ≤ u ∧ u < 4
    · have HU := Lib.hid (fun W : World => logicB (decLy plu) W)
      by_cases pzv : v = 0
      · have dpzv : (v == 0) = true := beq_iff_eq.2 pzv
        have HF := Lib.hid (show fieldsB vars 12 k u v = true by simp [fieldsB]; omega)
        clear pzk plu pzv
        have ta0 := ta_true
        have ta1 := ta_var
        have ta2 := ta_reach
        have ta3 := ta_shared
        have ta4 := ta_next
        have ta5 := ta_same
        have ta6 := ta_path
        have ta7 := ta_not
        have ta8 := ta_and
        have ta9 := ta_or
        have ta10 := ta_some
        have ta11 := ta_all
        go_enter Tryz.func76, Tryz.ntmps76
        go_wp2_with fail
        refine (implFormOf _ _).mono ?_
        rintro e w1 ⟨rfl, rfl⟩
        simp only [formV, formT_12]
        go_wp2_with fail
        refine (HU.out _).mono ?_
        rintro e w2 ⟨rfl, rfl⟩
        go_wp2_with fail
        go_ret
        exact ⟨congrArg (fun c : Bool => Ending.returned (.bool c)) HF.out.symm, (Below.refl _ _).alloc (Nat.le_refl _) _⟩
      · have dpzv : (v == 0) = false := beq_eq_false_iff_ne.2 pzv
        have HF := Lib.hid (show fieldsB vars 12 k u v = false by simp [fieldsB]; omega)
        clear pzk plu pzv
        have ta0 := ta_true
        have ta1 := ta_var
        have ta2 := ta_reach
        have ta3 := ta_shared
        have ta4 := ta_next
        have ta5 := ta_same
        have ta6 := ta_path
        have ta7 := ta_not
        have ta8 := ta_and
        have ta9 := ta_or
        have ta10 := ta_some
        have ta11 := ta_all
        go_enter Tryz.func76, Tryz.ntmps76
        go_wp2_with fail
        refine (implFormOf _ _).mono ?_
        rintro e w1 ⟨rfl, rfl⟩
        simp only [formV, formT_12]
        go_wp2_with fail
        refine (HU.out _).mono ?_
        rintro e w2 ⟨rfl, rfl⟩
        go_wp2_with fail
        go_ret
        exact ⟨congrArg (fun c : Bool => Ending.returned (.bool c)) HF.out.symm, (Below.refl _ _).alloc (Nat.le_refl _) _⟩
    · have HU := Lib.hid (fun W : World => logicB (decL plu) W)
      have HF := Lib.hid (show fieldsB vars 12 k u v = false by simp [fieldsB]; omega)
      clear pzk plu
      have ta0 := ta_true
      have ta1 := ta_var
      have ta2 := ta_reach
      have ta3 := ta_shared
      have ta4 := ta_next
      have ta5 := ta_same
      have ta6 := ta_path
      have ta7 := ta_not
      have ta8 := ta_and
      have ta9 := ta_or
      have ta10 := ta_some
      have ta11 := ta_all
      go_enter Tryz.func76, Tryz.ntmps76
      go_wp2_with fail
      refine (implFormOf _ _).mono ?_
      rintro e w1 ⟨rfl, rfl⟩
      simp only [formV, formT_12]
      go_wp2_with fail
      refine (HU.out _).mono ?_
      rintro e w2 ⟨rfl, rfl⟩
      go_wp2_with fail
      go_ret
      exact ⟨congrArg (fun c : Bool => Ending.returned (.bool c)) HF.out.symm, (Below.refl _ _).alloc (Nat.le_refl _) _⟩
  · have dpzk : (k == 0) = false := beq_eq_false_iff_ne.2 pzk
    have HF := Lib.hid (show fieldsB vars 12 k u v = false by simp [fieldsB]; omega)
    clear pzk
    have ta0 := ta_true
    have ta1 := ta_var
    have ta2 := ta_reach
    have ta3 := ta_shared
    have ta4 := ta_next
    have ta5 := ta_same
    have ta6 := ta_path
    have ta7 := ta_not
    have ta8 := ta_and
    have ta9 := ta_or
    have ta10 := ta_some
    have ta11 := ta_all
    go_enter Tryz.func76, Tryz.ntmps76
    go_wp2_with fail
    refine (implFormOf _ _).mono ?_
    rintro e w1 ⟨rfl, rfl⟩
    simp only [formV, formT_12]
    go_wp2_with fail
    go_ret
    exact ⟨congrArg (fun c : Bool => Ending.returned (.bool c)) HF.out.symm, (Below.refl _ _).alloc (Nat.le_refl _) _⟩
set_option maxHeartbeats 1600000 in
theorem hasFields_no (vars kd k u v : Int) (a : Option Addr) (n cap : Nat) (w : World) (h : kd < 1 ∨ 12 < kd) : Calls Tryz.prog 76 #[.int .i64 vars, .agg #[.int .i64 kd, .int .i64 k, .int .i64 u, .int .i64 v, .slice a n cap]] w (GaveB (.bool (fieldsB vars kd k u v)) w) := by
  have HF := Lib.hid (show fieldsB vars kd k u v = false by
    unfold fieldsB
    rw [if_neg (by omega), if_neg (by omega), if_neg (by omega), if_neg (by omega)])
  have hT := formT_no h
  clear h

  have ta0 := ta_true
  have ta1 := ta_var
  have ta2 := ta_reach
  have ta3 := ta_shared
  have ta4 := ta_next
  have ta5 := ta_same
  have ta6 := ta_path
  have ta7 := ta_not
  have ta8 := ta_and
  have ta9 := ta_or
  have ta10 := ta_some
  have ta11 := ta_all
  go_enter Tryz.func76, Tryz.ntmps76
  go_wp2_with fail
  refine (implFormOf _ _).mono ?_
  rintro e w1 ⟨rfl, rfl⟩
  simp only [formV, hT]
  clear hT
  go_wp2_with fail
  go_ret
  exact ⟨congrArg (fun c : Bool => Ending.returned (.bool c)) HF.out.symm, (Below.refl _ _).alloc (Nat.le_refl _) _⟩
theorem implHasFields (vars : Int) (x : Ft) (w : World) : Calls Tryz.prog 76 #[.int .i64 vars, x.val] w (GaveB (.bool (fieldsB vars x.kd x.k x.u x.v)) w) := by
  unfold Ft.val
  generalize x.kd = kd
  rcases kind_cases kd with h | h | h | h | h | h | h | h | h | h | h | h | h
  · subst h
    exact hasFields_1 _ _ _ _ _ _ _ _
  · subst h
    exact hasFields_2 _ _ _ _ _ _ _ _
  · subst h
    exact hasFields_3 _ _ _ _ _ _ _ _
  · subst h
    exact hasFields_4 _ _ _ _ _ _ _ _
  · subst h
    exact hasFields_5 _ _ _ _ _ _ _ _
  · subst h
    exact hasFields_6 _ _ _ _ _ _ _ _
  · subst h
    exact hasFields_7 _ _ _ _ _ _ _ _
  · subst h
    exact hasFields_8 _ _ _ _ _ _ _ _
  · subst h
    exact hasFields_9 _ _ _ _ _ _ _ _
  · subst h
    exact hasFields_10 _ _ _ _ _ _ _ _
  · subst h
    exact hasFields_11 _ _ _ _ _ _ _ _
  · subst h
    exact hasFields_12 _ _ _ _ _ _ _ _
  · exact hasFields_no _ _ _ _ _ _ _ _ _ h
end Go.Proofs.YtplchhahjmoodaaGreatDoor
