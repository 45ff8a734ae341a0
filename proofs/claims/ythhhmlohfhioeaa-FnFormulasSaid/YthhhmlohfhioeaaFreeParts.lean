/-
  Free logic variables: what they are; the program's usedBy, isBinder.
-/
import Derived.Test.YthhhmlohfhioeaaHasFields
import Derived.Test.YthhhmlohfhioeaaNums
import Derived.Test.YthhhmlohfhioeaaToTree
namespace Go.Proofs.Ythhhmlohfhioeaa
open Go Go.RowKit

/-- The logic variables of which a node itself speaks. -/
def usedL (kd u v : Int) : List Int := if kd = 2 ∨ kd = 3 ∨ kd = 4 then [u] else if kd = 5 ∨ kd = 6 ∨ kd = 7 then [u, v] else []
def isB (kd : Int) : Bool := decide (kd = 11 ∨ kd = 12)
/- Does variable i occur free, where bi tells whether it is bound around? -/
mutual
def Fm.freeF (i : Int) (bi : Bool) : Fm → Bool
  | .mk kd _ u v pp => (!bi && decide (i ∈ usedL kd u v)) || Fm.freesF i (bi || (isB kd && decide (u = i))) pp
def Fm.freesF (i : Int) (bi : Bool) : List Fm → Bool
  | [] => false
  | t :: ts => t.freeF i bi || Fm.freesF i bi ts
end
theorem Fm.freesF_any (i : Int) (bi : Bool) : ∀ ts : List Fm, Fm.freesF i bi ts = ts.any (Fm.freeF i bi)
  | [] => rfl
  | t :: ts => by rw [Fm.freesF, Fm.freesF_any i bi ts, List.any_cons]
theorem Fm.freeF_eq (i : Int) (bi : Bool) (t : Fm) : t.freeF i bi = ((!bi && decide (i ∈ usedL t.kd t.u t.v)) || t.args.any (Fm.freeF i (bi || (isB t.kd && decide (t.u = i))))) := by
  cases t
  rw [Fm.freeF, Fm.freesF_any]
  rfl
theorem Ft.freeF_eq (i : Int) (bi : Bool) (t : Ft) : t.er.freeF i bi = ((!bi && decide (i ∈ usedL t.kd t.u t.v)) || (t.args.map Ft.er).any (Fm.freeF i (bi || (isB t.kd && decide (t.u = i))))) := by
  rw [Fm.freeF_eq, Ft.er_eq]
  rfl
def freeL (t : Fm) : List Int := [0, 1, 2, 3].filter fun i => t.freeF i false

theorem num2Info : (Try.prog.info? 3).map (fun i => (i.zero, i.size, i.bytes)) = some (some (.int .i64 0), 1, 8) := by kernel_rfl
theorem size_box (w : World) (c : Array Value) (t : TypeId) : w.heap.size ≤ (w.alloc (.cells c t)).heap.size := by simp
theorem lit_owned {w : World} {base : Nat} {e : TypeId} (xs : List Value) (H : Nat) (hH : w.heap.size = H) (hl : xs.length ≤ 4) (hb : base ≤ w.heap.size) : (w.alloc (.cells xs.toArray e)).ownsRow base e 1 (.slice (some ⟨H, 0, none⟩) xs.length xs.length) xs.length xs := by
  subst hH
  exact ⟨by simp, .inr ⟨w.heap.size, xs.length, xs.toArray, rfl, hb, (MapKept.heap_alloc w _).1, Nat.le_refl _, by unfold maxLen; omega, by simp, by simp⟩⟩

set_option maxHeartbeats 800000 in
theorem binder_1 (k u v : Int) (a : Option Addr) (n cap : Nat) (w : World) : Calls Try.prog 62 #[.agg #[.int .i64 1, .int .i64 k, .int .i64 u, .int .i64 v, .slice a n cap]] w (GaveB (.bool (isB 1)) w) := by
  have ta0 := ta_true
  have ta1 := ta_var
  have ta2 := ta_reach
  have ta3 := ta_shared
  have ta4 := ta_next
  have ta5 := ta_same
  have ta6 := ta_path
  have ta7 := ta_not
  have ta8 := ta_and
  have ta9 := ta_or
  have ta10 := ta_some
  have ta11 := ta_all
  go_enter Try.func62, Try.ntmps62
  go_wp2_with fail
  refine (implFormOf _ _).mono ?_
  rintro e w1 ⟨rfl, rfl⟩
  simp only [formV, formT_1]
  go_wp2_with fail
  go_ret
  exact ⟨rfl, (Below.refl _ _).alloc (Nat.le_refl _) _⟩
set_option maxHeartbeats 800000 in
theorem used_1 (k u v : Int) (a : Option Addr) (n cap : Nat) (w : World) : Calls Try.prog 47 #[.agg #[.int .i64 1, .int .i64 k, .int .i64 u, .int .i64 v, .slice a n cap]] w (Built w.heap.size 3 (intVals (usedL 1 u v)) w) := by
  have ta0 := ta_true
  have ta1 := ta_var
  have ta2 := ta_reach
  have ta3 := ta_shared
  have ta4 := ta_next
  have ta5 := ta_same
  have ta6 := ta_path
  have ta7 := ta_not
  have ta8 := ta_and
  have ta9 := ta_or
  have ta10 := ta_some
  have ta11 := ta_all
  go_enter Try.func47, Try.ntmps47
  go_wp2_with fail
  refine (implFormOf _ _).mono ?_
  rintro e w1 ⟨rfl, rfl⟩
  simp only [formV, formT_1]
  go_wp2_with fail
  go_ret
  exact built_end rfl ⟨rfl, .inl ⟨rfl, rfl⟩⟩ ((Below.refl _ _).alloc (Nat.le_refl _) _)
set_option maxHeartbeats 800000 in
theorem binder_2 (k u v : Int) (a : Option Addr) (n cap : Nat) (w : World) : Calls Try.prog 62 #[.agg #[.int .i64 2, .int .i64 k, .int .i64 u, .int .i64 v, .slice a n cap]] w (GaveB (.bool (isB 2)) w) := by
  have ta0 := ta_true
  have ta1 := ta_var
  have ta2 := ta_reach
  have ta3 := ta_shared
  have ta4 := ta_next
  have ta5 := ta_same
  have ta6 := ta_path
  have ta7 := ta_not
  have ta8 := ta_and
  have ta9 := ta_or
  have ta10 := ta_some
  have ta11 := ta_all
  go_enter Try.func62, Try.ntmps62
  go_wp2_with fail
  refine (implFormOf _ _).mono ?_
  rintro e w1 ⟨rfl, rfl⟩
  simp only [formV, formT_2]
  go_wp2_with fail
  go_ret
  exact ⟨rfl, (Below.refl _ _).alloc (Nat.le_refl _) _⟩
set_option maxHeartbeats 800000 in
theorem used_2 (k u v : Int) (a : Option Addr) (n cap : Nat) (w : World) : Calls Try.prog 47 #[.agg #[.int .i64 2, .int .i64 k, .int .i64 u, .int .i64 v, .slice a n cap]] w (Built w.heap.size 3 (intVals (usedL 2 u v)) w) := by
  have ta0 := ta_true
  have ta1 := ta_var
  have ta2 := ta_reach
  have ta3 := ta_shared
  have ta4 := ta_next
  have ta5 := ta_same
  have ta6 := ta_path
  have ta7 := ta_not
  have ta8 := ta_and
  have ta9 := ta_or
  have ta10 := ta_some
  have ta11 := ta_all
  go_enter Try.func47, Try.ntmps47
  go_wp2_with fail
  refine (implFormOf _ _).mono ?_
  rintro e w1 ⟨rfl, rfl⟩
  simp only [formV, formT_2]
  go_wp2_with fail
  go_ret
  exact built_end (n := 1) rfl (lit_owned [.int .i64 u] (w.heap.size + 1) (by simp) (by show 1 ≤ 4; omega) (size_box _ _ _)) (((Below.refl _ _).alloc (Nat.le_refl _) _).alloc (size_box _ _ _) _)
set_option maxHeartbeats 800000 in
theorem binder_3 (k u v : Int) (a : Option Addr) (n cap : Nat) (w : World) : Calls Try.prog 62 #[.agg #[.int .i64 3, .int .i64 k, .int .i64 u, .int .i64 v, .slice a n cap]] w (GaveB (.bool (isB 3)) w) := by
  have ta0 := ta_true
  have ta1 := ta_var
  have ta2 := ta_reach
  have ta3 := ta_shared
  have ta4 := ta_next
  have ta5 := ta_same
  have ta6 := ta_path
  have ta7 := ta_not
  have ta8 := ta_and
  have ta9 := ta_or
  have ta10 := ta_some
  have ta11 := ta_all
  go_enter Try.func62, Try.ntmps62
  go_wp2_with fail
  refine (implFormOf _ _).mono ?_
  rintro e w1 ⟨rfl, rfl⟩
  simp only [formV, formT_3]
  go_wp2_with fail
  go_ret
  exact ⟨rfl, (Below.refl _ _).alloc (Nat.le_refl _) _⟩
set_option maxHeartbeats 800000 in
theorem used_3 (k u v : Int) (a : Option Addr) (n cap : Nat) (w : World) : Calls Try.prog 47 #[.agg #[.int .i64 3, .int .i64 k, .int .i64 u, .int .i64 v, .slice a n cap]] w (Built w.heap.size 3 (intVals (usedL 3 u v)) w) := by
  have ta0 := ta_true
  have ta1 := ta_var
  have ta2 := ta_reach
  have ta3 := ta_shared
  have ta4 := ta_next
  have ta5 := ta_same
  have ta6 := ta_path
  have ta7 := ta_not
  have ta8 := ta_and
  have ta9 := ta_or
  have ta10 := ta_some
  have ta11 := ta_all
  go_enter Try.func47, Try.ntmps47
  go_wp2_with fail
  refine (implFormOf _ _).mono ?_
  rintro e w1 ⟨rfl, rfl⟩
  simp only [formV, formT_3]
  go_wp2_with fail
  go_ret
  exact built_end (n := 1) rfl (lit_owned [.int .i64 u] (w.heap.size + 1) (by simp) (by show 1 ≤ 4; omega) (size_box _ _ _)) (((Below.refl _ _).alloc (Nat.le_refl _) _).alloc (size_box _ _ _) _)
set_option maxHeartbeats 800000 in
theorem binder_4 (k u v : Int) (a : Option Addr) (n cap : Nat) (w : World) : Calls Try.prog 62 #[.agg #[.int .i64 4, .int .i64 k, .int .i64 u, .int .i64 v, .slice a n cap]] w (GaveB (.bool (isB 4)) w) := by
  have ta0 := ta_true
  have ta1 := ta_var
  have ta2 := ta_reach
  have ta3 := ta_shared
  have ta4 := ta_next
  have ta5 := ta_same
  have ta6 := ta_path
  have ta7 := ta_not
  have ta8 := ta_and
  have ta9 := ta_or
  have ta10 := ta_some
  have ta11 := ta_all
  go_enter Try.func62, Try.ntmps62
  go_wp2_with fail
  refine (implFormOf _ _).mono ?_
  rintro e w1 ⟨rfl, rfl⟩
  simp only [formV, formT_4]
  go_wp2_with fail
  go_ret
  exact ⟨rfl, (Below.refl _ _).alloc (Nat.le_refl _) _⟩
set_option maxHeartbeats 800000 in
theorem used_4 (k u v : Int) (a : Option Addr) (n cap : Nat) (w : World) : Calls Try.prog 47 #[.agg #[.int .i64 4, .int .i64 k, .int .i64 u, .int .i64 v, .slice a n cap]] w (Built w.heap.size 3 (intVals (usedL 4 u v)) w) := by
  have ta0 := ta_true
  have ta1 := ta_var
  have ta2 := ta_reach
  have ta3 := ta_shared
  have ta4 := ta_next
  have ta5 := ta_same
  have ta6 := ta_path
  have ta7 := ta_not
  have ta8 := ta_and
  have ta9 := ta_or
  have ta10 := ta_some
  have ta11 := ta_all
  go_enter Try.func47, Try.ntmps47
  go_wp2_with fail
  refine (implFormOf _ _).mono ?_
  rintro e w1 ⟨rfl, rfl⟩
  simp only [formV, formT_4]
  go_wp2_with fail
  go_ret
  exact built_end (n := 1) rfl (lit_owned [.int .i64 u] (w.heap.size + 1) (by simp) (by show 1 ≤ 4; omega) (size_box _ _ _)) (((Below.refl _ _).alloc (Nat.le_refl _) _).alloc (size_box _ _ _) _)
set_option maxHeartbeats 800000 in
theorem binder_5 (k u v : Int) (a : Option Addr) (n cap : Nat) (w : World) : Calls Try.prog 62 #[.agg #[.int .i64 5, .int .i64 k, .int .i64 u, .int .i64 v, .slice a n cap]] w (GaveB (.bool (isB 5)) w) := by
  have ta0 := ta_true
  have ta1 := ta_var
  have ta2 := ta_reach
  have ta3 := ta_shared
  have ta4 := ta_next
  have ta5 := ta_same
  have ta6 := ta_path
  have ta7 := ta_not
  have ta8 := ta_and
  have ta9 := ta_or
  have ta10 := ta_some
  have ta11 := ta_all
  go_enter Try.func62, Try.ntmps62
  go_wp2_with fail
  refine (implFormOf _ _).mono ?_
  rintro e w1 ⟨rfl, rfl⟩
  simp only [formV, formT_5]
  go_wp2_with fail
  go_ret
  exact ⟨rfl, (Below.refl _ _).alloc (Nat.le_refl _) _⟩
set_option maxHeartbeats 800000 in
theorem used_5 (k u v : Int) (a : Option Addr) (n cap : Nat) (w : World) : Calls Try.prog 47 #[.agg #[.int .i64 5, .int .i64 k, .int .i64 u, .int .i64 v, .slice a n cap]] w (Built w.heap.size 3 (intVals (usedL 5 u v)) w) := by
  have ta0 := ta_true
  have ta1 := ta_var
  have ta2 := ta_reach
  have ta3 := ta_shared
  have ta4 := ta_next
  have ta5 := ta_same
  have ta6 := ta_path
  have ta7 := ta_not
  have ta8 := ta_and
  have ta9 := ta_or
  have ta10 := ta_some
  have ta11 := ta_all
  go_enter Try.func47, Try.ntmps47
  go_wp2_with fail
  refine (implFormOf _ _).mono ?_
  rintro e w1 ⟨rfl, rfl⟩
  simp only [formV, formT_5]
  go_wp2_with fail
  go_ret
  exact built_end (n := 2) rfl (lit_owned [.int .i64 u, .int .i64 v] (w.heap.size + 1) (by simp) (by show 2 ≤ 4; omega) (size_box _ _ _)) (((Below.refl _ _).alloc (Nat.le_refl _) _).alloc (size_box _ _ _) _)
set_option maxHeartbeats 800000 in
theorem binder_6 (k u v : Int) (a : Option Addr) (n cap : Nat) (w : World) : Calls Try.prog 62 #[.agg #[.int .i64 6, .int .i64 k, .int .i64 u, .int .i64 v, .slice a n cap]] w (GaveB (.bool (isB 6)) w) := by
  have ta0 := ta_true
  have ta1 := ta_var
  have ta2 := ta_reach
  have ta3 := ta_shared
  have ta4 := ta_next
  have ta5 := ta_same
  have ta6 := ta_path
  have ta7 := ta_not
  have ta8 := ta_and
  have ta9 := ta_or
  have ta10 := ta_some
  have ta11 := ta_all
  go_enter Try.func62, Try.ntmps62
  go_wp2_with fail
  refine (implFormOf _ _).mono ?_
  rintro e w1 ⟨rfl, rfl⟩
  simp only [formV, formT_6]
  go_wp2_with fail
  go_ret
  exact ⟨rfl, (Below.refl _ _).alloc (Nat.le_refl _) _⟩
set_option maxHeartbeats 800000 in
theorem used_6 (k u v : Int) (a : Option Addr) (n cap : Nat) (w : World) : Calls Try.prog 47 #[.agg #[.int .i64 6, .int .i64 k, .int .i64 u, .int .i64 v, .slice a n cap]] w (Built w.heap.size 3 (intVals (usedL 6 u v)) w) := by
  have ta0 := ta_true
  have ta1 := ta_var
  have ta2 := ta_reach
  have ta3 := ta_shared
  have ta4 := ta_next
  have ta5 := ta_same
  have ta6 := ta_path
  have ta7 := ta_not
  have ta8 := ta_and
  have ta9 := ta_or
  have ta10 := ta_some
  have ta11 := ta_all
  go_enter Try.func47, Try.ntmps47
  go_wp2_with fail
  refine (implFormOf _ _).mono ?_
  rintro e w1 ⟨rfl, rfl⟩
  simp only [formV, formT_6]
  go_wp2_with fail
  go_ret
  exact built_end (n := 2) rfl (lit_owned [.int .i64 u, .int .i64 v] (w.heap.size + 1) (by simp) (by show 2 ≤ 4; omega) (size_box _ _ _)) (((Below.refl _ _).alloc (Nat.le_refl _) _).alloc (size_box _ _ _) _)
set_option maxHeartbeats 800000 in
theorem binder_7 (k u v : Int) (a : Option Addr) (n cap : Nat) (w : World) : Calls Try.prog 62 #[.agg #[.int .i64 7, .int .i64 k, .int .i64 u, .int .i64 v, .slice a n cap]] w (GaveB (.bool (isB 7)) w) := by
  have ta0 := ta_true
  have ta1 := ta_var
  have ta2 := ta_reach
  have ta3 := ta_shared
  have ta4 := ta_next
  have ta5 := ta_same
  have ta6 := ta_path
  have ta7 := ta_not
  have ta8 := ta_and
  have ta9 := ta_or
  have ta10 := ta_some
  have ta11 := ta_all
  go_enter Try.func62, Try.ntmps62
  go_wp2_with fail
  refine (implFormOf _ _).mono ?_
  rintro e w1 ⟨rfl, rfl⟩
  simp only [formV, formT_7]
  go_wp2_with fail
  go_ret
  exact ⟨rfl, (Below.refl _ _).alloc (Nat.le_refl _) _⟩
set_option maxHeartbeats 800000 in
theorem used_7 (k u v : Int) (a : Option Addr) (n cap : Nat) (w : World) : Calls Try.prog 47 #[.agg #[.int .i64 7, .int .i64 k, .int .i64 u, .int .i64 v, .slice a n cap]] w (Built w.heap.size 3 (intVals (usedL 7 u v)) w) := by
  have ta0 := ta_true
  have ta1 := ta_var
  have ta2 := ta_reach
  have ta3 := ta_shared
  have ta4 := ta_next
  have ta5 := ta_same
  have ta6 := ta_path
  have ta7 := ta_not
  have ta8 := ta_and
  have ta9 := ta_or
  have ta10 := ta_some
  have ta11 := ta_all
  go_enter Try.func47, Try.ntmps47
  go_wp2_with fail
  refine (implFormOf _ _).mono ?_
  rintro e w1 ⟨rfl, rfl⟩
  simp only [formV, formT_7]
  go_wp2_with fail
  go_ret
  exact built_end (n := 2) rfl (lit_owned [.int .i64 u, .int .i64 v] (w.heap.size + 1) (by simp) (by show 2 ≤ 4; omega) (size_box _ _ _)) (((Below.refl _ _).alloc (Nat.le_refl _) _).alloc (size_box _ _ _) _)
set_option maxHeartbeats 800000 in
theorem binder_8 (k u v : Int) (a : Option Addr) (n cap : Nat) (w : World) : Calls Try.prog 62 #[.agg #[.int .i64 8, .int .i64 k, .int .i64 u, .int .i64 v, .slice a n cap]] w (GaveB (.bool (isB 8)) w) := by
  have ta0 := ta_true
  have ta1 := ta_var
  have ta2 := ta_reach
  have ta3 := ta_shared
  have ta4 := ta_next
  have ta5 := ta_same
  have ta6 := ta_path
  have ta7 := ta_not
  have ta8 := ta_and
  have ta9 := ta_or
  have ta10 := ta_some
  have ta11 := ta_all
  go_enter Try.func62, Try.ntmps62
  go_wp2_with fail
  refine (implFormOf _ _).mono ?_
  rintro e w1 ⟨rfl, rfl⟩
  simp only [formV, formT_8]
  go_wp2_with fail
  go_ret
  exact ⟨rfl, (Below.refl _ _).alloc (Nat.le_refl _) _⟩
set_option maxHeartbeats 800000 in
theorem used_8 (k u v : Int) (a : Option Addr) (n cap : Nat) (w : World) : Calls Try.prog 47 #[.agg #[.int .i64 8, .int .i64 k, .int .i64 u, .int .i64 v, .slice a n cap]] w (Built w.heap.size 3 (intVals (usedL 8 u v)) w) := by
  have ta0 := ta_true
  have ta1 := ta_var
  have ta2 := ta_reach
  have ta3 := ta_shared
  have ta4 := ta_next
  have ta5 := ta_same
  have ta6 := ta_path
  have ta7 := ta_not
  have ta8 := ta_and
  have ta9 := ta_or
  have ta10 := ta_some
  have ta11 := ta_all
  go_enter Try.func47, Try.ntmps47
  go_wp2_with fail
  refine (implFormOf _ _).mono ?_
  rintro e w1 ⟨rfl, rfl⟩
  simp only [formV, formT_8]
  go_wp2_with fail
  go_ret
  exact built_end rfl ⟨rfl, .inl ⟨rfl, rfl⟩⟩ ((Below.refl _ _).alloc (Nat.le_refl _) _)
set_option maxHeartbeats 800000 in
theorem binder_9 (k u v : Int) (a : Option Addr) (n cap : Nat) (w : World) : Calls Try.prog 62 #[.agg #[.int .i64 9, .int .i64 k, .int .i64 u, .int .i64 v, .slice a n cap]] w (GaveB (.bool (isB 9)) w) := by
  have ta0 := ta_true
  have ta1 := ta_var
  have ta2 := ta_reach
  have ta3 := ta_shared
  have ta4 := ta_next
  have ta5 := ta_same
  have ta6 := ta_path
  have ta7 := ta_not
  have ta8 := ta_and
  have ta9 := ta_or
  have ta10 := ta_some
  have ta11 := ta_all
  go_enter Try.func62, Try.ntmps62
  go_wp2_with fail
  refine (implFormOf _ _).mono ?_
  rintro e w1 ⟨rfl, rfl⟩
  simp only [formV, formT_9]
  go_wp2_with fail
  go_ret
  exact ⟨rfl, (Below.refl _ _).alloc (Nat.le_refl _) _⟩
set_option maxHeartbeats 800000 in
theorem used_9 (k u v : Int) (a : Option Addr) (n cap : Nat) (w : World) : Calls Try.prog 47 #[.agg #[.int .i64 9, .int .i64 k, .int .i64 u, .int .i64 v, .slice a n cap]] w (Built w.heap.size 3 (intVals (usedL 9 u v)) w) := by
  have ta0 := ta_true
  have ta1 := ta_var
  have ta2 := ta_reach
  have ta3 := ta_shared
  have ta4 := ta_next
  have ta5 := ta_same
  have ta6 := ta_path
  have ta7 := ta_not
  have ta8 := ta_and
  have ta9 := ta_or
  have ta10 := ta_some
  have ta11 := ta_all
  go_enter Try.func47, Try.ntmps47
  go_wp2_with fail
  refine (implFormOf _ _).mono ?_
  rintro e w1 ⟨rfl, rfl⟩
  simp only [formV, formT_9]
  go_wp2_with fail
  go_ret
  exact built_end rfl ⟨rfl, .inl ⟨rfl, rfl⟩⟩ ((Below.refl _ _).alloc (Nat.le_refl _) _)
set_option maxHeartbeats 800000 in
theorem binder_10 (k u v : Int) (a : Option Addr) (n cap : Nat) (w : World) : Calls Try.prog 62 #[.agg #[.int .i64 10, .int .i64 k, .int .i64 u, .int .i64 v, .slice a n cap]] w (GaveB (.bool (isB 10)) w) := by
  have ta0 := ta_true
  have ta1 := ta_var
  have ta2 := ta_reach
  have ta3 := ta_shared
  have ta4 := ta_next
  have ta5 := ta_same
  have ta6 := ta_path
  have ta7 := ta_not
  have ta8 := ta_and
  have ta9 := ta_or
  have ta10 := ta_some
  have ta11 := ta_all
  go_enter Try.func62, Try.ntmps62
  go_wp2_with fail
  refine (implFormOf _ _).mono ?_
  rintro e w1 ⟨rfl, rfl⟩
  simp only [formV, formT_10]
  go_wp2_with fail
  go_ret
  exact ⟨rfl, (Below.refl _ _).alloc (Nat.le_refl _) _⟩
set_option maxHeartbeats 800000 in
theorem used_10 (k u v : Int) (a : Option Addr) (n cap : Nat) (w : World) : Calls Try.prog 47 #[.agg #[.int .i64 10, .int .i64 k, .int .i64 u, .int .i64 v, .slice a n cap]] w (Built w.heap.size 3 (intVals (usedL 10 u v)) w) := by
  have ta0 := ta_true
  have ta1 := ta_var
  have ta2 := ta_reach
  have ta3 := ta_shared
  have ta4 := ta_next
  have ta5 := ta_same
  have ta6 := ta_path
  have ta7 := ta_not
  have ta8 := ta_and
  have ta9 := ta_or
  have ta10 := ta_some
  have ta11 := ta_all
  go_enter Try.func47, Try.ntmps47
  go_wp2_with fail
  refine (implFormOf _ _).mono ?_
  rintro e w1 ⟨rfl, rfl⟩
  simp only [formV, formT_10]
  go_wp2_with fail
  go_ret
  exact built_end rfl ⟨rfl, .inl ⟨rfl, rfl⟩⟩ ((Below.refl _ _).alloc (Nat.le_refl _) _)
set_option maxHeartbeats 800000 in
theorem binder_11 (k u v : Int) (a : Option Addr) (n cap : Nat) (w : World) : Calls Try.prog 62 #[.agg #[.int .i64 11, .int .i64 k, .int .i64 u, .int .i64 v, .slice a n cap]] w (GaveB (.bool (isB 11)) w) := by
  have ta0 := ta_true
  have ta1 := ta_var
  have ta2 := ta_reach
  have ta3 := ta_shared
  have ta4 := ta_next
  have ta5 := ta_same
  have ta6 := ta_path
  have ta7 := ta_not
  have ta8 := ta_and
  have ta9 := ta_or
  have ta10 := ta_some
  have ta11 := ta_all
  go_enter Try.func62, Try.ntmps62
  go_wp2_with fail
  refine (implFormOf _ _).mono ?_
  rintro e w1 ⟨rfl, rfl⟩
  simp only [formV, formT_11]
  go_wp2_with fail
  go_ret
  exact ⟨rfl, (Below.refl _ _).alloc (Nat.le_refl _) _⟩
set_option maxHeartbeats 800000 in
theorem used_11 (k u v : Int) (a : Option Addr) (n cap : Nat) (w : World) : Calls Try.prog 47 #[.agg #[.int .i64 11, .int .i64 k, .int .i64 u, .int .i64 v, .slice a n cap]] w (Built w.heap.size 3 (intVals (usedL 11 u v)) w) := by
  have ta0 := ta_true
  have ta1 := ta_var
  have ta2 := ta_reach
  have ta3 := ta_shared
  have ta4 := ta_next
  have ta5 := ta_same
  have ta6 := ta_path
  have ta7 := ta_not
  have ta8 := ta_and
  have ta9 := ta_or
  have ta10 := ta_some
  have ta11 := ta_all
  go_enter Try.func47, Try.ntmps47
  go_wp2_with fail
  refine (implFormOf _ _).mono ?_
  rintro e w1 ⟨rfl, rfl⟩
  simp only [formV, formT_11]
  go_wp2_with fail
  go_ret
  exact built_end rfl ⟨rfl, .inl ⟨rfl, rfl⟩⟩ ((Below.refl _ _).alloc (Nat.le_refl _) _)
set_option maxHeartbeats 800000 in
theorem binder_12 (k u v : Int) (a : Option Addr) (n cap : Nat) (w : World) : Calls Try.prog 62 #[.agg #[.int .i64 12, .int .i64 k, .int .i64 u, .int .i64 v, .slice a n cap]] w (GaveB (.bool (isB 12)) w) := by
  have ta0 := ta_true
  have ta1 := ta_var
  have ta2 := ta_reach
  have ta3 := ta_shared
  have ta4 := ta_next
  have ta5 := ta_same
  have ta6 := ta_path
  have ta7 := ta_not
  have ta8 := ta_and
  have ta9 := ta_or
  have ta10 := ta_some
  have ta11 := ta_all
  go_enter Try.func62, Try.ntmps62
  go_wp2_with fail
  refine (implFormOf _ _).mono ?_
  rintro e w1 ⟨rfl, rfl⟩
  simp only [formV, formT_12]
  go_wp2_with fail
  go_ret
  exact ⟨rfl, (Below.refl _ _).alloc (Nat.le_refl _) _⟩
set_option maxHeartbeats 800000 in
theorem used_12 (k u v : Int) (a : Option Addr) (n cap : Nat) (w : World) : Calls Try.prog 47 #[.agg #[.int .i64 12, .int .i64 k, .int .i64 u, .int .i64 v, .slice a n cap]] w (Built w.heap.size 3 (intVals (usedL 12 u v)) w) := by
  have ta0 := ta_true
  have ta1 := ta_var
  have ta2 := ta_reach
  have ta3 := ta_shared
  have ta4 := ta_next
  have ta5 := ta_same
  have ta6 := ta_path
  have ta7 := ta_not
  have ta8 := ta_and
  have ta9 := ta_or
  have ta10 := ta_some
  have ta11 := ta_all
  go_enter Try.func47, Try.ntmps47
  go_wp2_with fail
  refine (implFormOf _ _).mono ?_
  rintro e w1 ⟨rfl, rfl⟩
  simp only [formV, formT_12]
  go_wp2_with fail
  go_ret
  exact built_end rfl ⟨rfl, .inl ⟨rfl, rfl⟩⟩ ((Below.refl _ _).alloc (Nat.le_refl _) _)
set_option maxHeartbeats 800000 in
theorem binder_no (kd : Int) (k u v : Int) (a : Option Addr) (n cap : Nat) (w : World) (h : kd < 1 ∨ 12 < kd) : Calls Try.prog 62 #[.agg #[.int .i64 kd, .int .i64 k, .int .i64 u, .int .i64 v, .slice a n cap]] w (GaveB (.bool (isB kd)) w) := by
  have hv : isB kd = false := decide_eq_false (by omega)
  rw [hv]
  have hT := formT_no h
  clear h hv
  have ta0 := ta_true
  have ta1 := ta_var
  have ta2 := ta_reach
  have ta3 := ta_shared
  have ta4 := ta_next
  have ta5 := ta_same
  have ta6 := ta_path
  have ta7 := ta_not
  have ta8 := ta_and
  have ta9 := ta_or
  have ta10 := ta_some
  have ta11 := ta_all
  go_enter Try.func62, Try.ntmps62
  go_wp2_with fail
  refine (implFormOf _ _).mono ?_
  rintro e w1 ⟨rfl, rfl⟩
  simp only [formV, hT]
  go_wp2_with fail
  go_ret
  exact ⟨rfl, (Below.refl _ _).alloc (Nat.le_refl _) _⟩
set_option maxHeartbeats 800000 in
theorem used_no (kd : Int) (k u v : Int) (a : Option Addr) (n cap : Nat) (w : World) (h : kd < 1 ∨ 12 < kd) : Calls Try.prog 47 #[.agg #[.int .i64 kd, .int .i64 k, .int .i64 u, .int .i64 v, .slice a n cap]] w (Built w.heap.size 3 (intVals (usedL kd u v)) w) := by
  have hv : usedL kd u v = [] := by
    unfold usedL
    rw [if_neg (by omega), if_neg (by omega)]
  rw [hv]
  have hT := formT_no h
  clear h hv
  have ta0 := ta_true
  have ta1 := ta_var
  have ta2 := ta_reach
  have ta3 := ta_shared
  have ta4 := ta_next
  have ta5 := ta_same
  have ta6 := ta_path
  have ta7 := ta_not
  have ta8 := ta_and
  have ta9 := ta_or
  have ta10 := ta_some
  have ta11 := ta_all
  go_enter Try.func47, Try.ntmps47
  go_wp2_with fail
  refine (implFormOf _ _).mono ?_
  rintro e w1 ⟨rfl, rfl⟩
  simp only [formV, hT]
  go_wp2_with fail
  go_ret
  exact built_end rfl ⟨rfl, .inl ⟨rfl, rfl⟩⟩ ((Below.refl _ _).alloc (Nat.le_refl _) _)
theorem implIsBinder (x : Ft) (w : World) : Calls Try.prog 62 #[x.val] w (GaveB (.bool (isB x.kd)) w) := by
  unfold Ft.val
  generalize x.kd = kd
  rcases kind_cases kd with h | h | h | h | h | h | h | h | h | h | h | h | h
  · subst h
    exact binder_1 _ _ _ _ _ _ _
  · subst h
    exact binder_2 _ _ _ _ _ _ _
  · subst h
    exact binder_3 _ _ _ _ _ _ _
  · subst h
    exact binder_4 _ _ _ _ _ _ _
  · subst h
    exact binder_5 _ _ _ _ _ _ _
  · subst h
    exact binder_6 _ _ _ _ _ _ _
  · subst h
    exact binder_7 _ _ _ _ _ _ _
  · subst h
    exact binder_8 _ _ _ _ _ _ _
  · subst h
    exact binder_9 _ _ _ _ _ _ _
  · subst h
    exact binder_10 _ _ _ _ _ _ _
  · subst h
    exact binder_11 _ _ _ _ _ _ _
  · subst h
    exact binder_12 _ _ _ _ _ _ _
  · exact binder_no _ _ _ _ _ _ _ _ h
theorem implUsedBy (x : Ft) (w : World) : Calls Try.prog 47 #[x.val] w (Built w.heap.size 3 (intVals (usedL x.kd x.u x.v)) w) := by
  unfold Ft.val
  generalize x.kd = kd
  rcases kind_cases kd with h | h | h | h | h | h | h | h | h | h | h | h | h
  · subst h
    exact used_1 _ _ _ _ _ _ _
  · subst h
    exact used_2 _ _ _ _ _ _ _
  · subst h
    exact used_3 _ _ _ _ _ _ _
  · subst h
    exact used_4 _ _ _ _ _ _ _
  · subst h
    exact used_5 _ _ _ _ _ _ _
  · subst h
    exact used_6 _ _ _ _ _ _ _
  · subst h
    exact used_7 _ _ _ _ _ _ _
  · subst h
    exact used_8 _ _ _ _ _ _ _
  · subst h
    exact used_9 _ _ _ _ _ _ _
  · subst h
    exact used_10 _ _ _ _ _ _ _
  · subst h
    exact used_11 _ _ _ _ _ _ _
  · subst h
    exact used_12 _ _ _ _ _ _ _
  · exact used_no _ _ _ _ _ _ _ _ h
end Go.Proofs.Ythhhmlohfhioeaa
