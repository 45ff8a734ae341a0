/-
  What the program writes before the parts of a node that is no pair. (Printed by wip/tools/gen_impl_head.py.)
-/
import Derived.Test.YtplchhahjmoodaaGreatDoorZ28
import Derived.Test.YtplchhahjmoodaaGreatDoorZ03
namespace Go.Proofs.YtplchhahjmoodaaGreatDoor
open Go Go.RowKit

def headT (ss : List ByteArray) (kd k u v : Int) : ByteArray :=
  if kd = 1 then (⟨#[116, 114, 117, 101]⟩ : ByteArray)
  else if kd = 2 then (⟨#[111, 110, 32]⟩ : ByteArray) ++ nameAt ss k ++ (⟨#[58]⟩ : ByteArray) ++ letterT u
  else if kd = 3 then (⟨#[102, 114, 111, 109, 32]⟩ : ByteArray) ++ nameAt ss k ++ (⟨#[58]⟩ : ByteArray) ++ letterT u
  else if kd = 4 then (⟨#[115, 104, 97, 114, 101, 100, 58]⟩ : ByteArray) ++ letterT u
  else if kd = 5 then (⟨#[110, 101, 120, 116, 58]⟩ : ByteArray) ++ letterT u ++ letterT v
  else if kd = 6 then (⟨#[115, 97, 109, 101, 58]⟩ : ByteArray) ++ letterT u ++ letterT v
  else if kd = 7 then (⟨#[112, 97, 116, 104, 58]⟩ : ByteArray) ++ letterT u ++ letterT v
  else if kd = 8 then (⟨#[33]⟩ : ByteArray)
  else if kd = 11 then (⟨#[115, 111, 109, 101, 32]⟩ : ByteArray) ++ letterT u ++ (⟨#[46]⟩ : ByteArray)
  else (⟨#[97, 108, 108, 32]⟩ : ByteArray) ++ letterT u ++ (⟨#[46]⟩ : ByteArray)
theorem headT_1 (ss : List ByteArray) (k u v : Int) : headT ss 1 k u v = (⟨#[116, 114, 117, 101]⟩ : ByteArray) := by simp only [headT, Int.reduceEq, if_true, if_false]
theorem headT_2 (ss : List ByteArray) (k u v : Int) : headT ss 2 k u v = (⟨#[111, 110, 32]⟩ : ByteArray) ++ nameAt ss k ++ (⟨#[58]⟩ : ByteArray) ++ letterT u := by simp only [headT, Int.reduceEq, if_true, if_false]
theorem headT_3 (ss : List ByteArray) (k u v : Int) : headT ss 3 k u v = (⟨#[102, 114, 111, 109, 32]⟩ : ByteArray) ++ nameAt ss k ++ (⟨#[58]⟩ : ByteArray) ++ letterT u := by simp only [headT, Int.reduceEq, if_true, if_false]
theorem headT_4 (ss : List ByteArray) (k u v : Int) : headT ss 4 k u v = (⟨#[115, 104, 97, 114, 101, 100, 58]⟩ : ByteArray) ++ letterT u := by simp only [headT, Int.reduceEq, if_true, if_false]
theorem headT_5 (ss : List ByteArray) (k u v : Int) : headT ss 5 k u v = (⟨#[110, 101, 120, 116, 58]⟩ : ByteArray) ++ letterT u ++ letterT v := by simp only [headT, Int.reduceEq, if_true, if_false]
theorem headT_6 (ss : List ByteArray) (k u v : Int) : headT ss 6 k u v = (⟨#[115, 97, 109, 101, 58]⟩ : ByteArray) ++ letterT u ++ letterT v := by simp only [headT, Int.reduceEq, if_true, if_false]
theorem headT_7 (ss : List ByteArray) (k u v : Int) : headT ss 7 k u v = (⟨#[112, 97, 116, 104, 58]⟩ : ByteArray) ++ letterT u ++ letterT v := by simp only [headT, Int.reduceEq, if_true, if_false]
theorem headT_8 (ss : List ByteArray) (k u v : Int) : headT ss 8 k u v = (⟨#[33]⟩ : ByteArray) := by simp only [headT, Int.reduceEq, if_true, if_false]
theorem headT_11 (ss : List ByteArray) (k u v : Int) : headT ss 11 k u v = (⟨#[115, 111, 109, 101, 32]⟩ : ByteArray) ++ letterT u ++ (⟨#[46]⟩ : ByteArray) := by simp only [headT, Int.reduceEq, if_true, if_false]
theorem headT_12 (ss : List ByteArray) (k u v : Int) : headT ss 12 k u v = (⟨#[97, 108, 108, 32]⟩ : ByteArray) ++ letterT u ++ (⟨#[46]⟩ : ByteArray) := by simp only [headT, Int.reduceEq, if_true, if_false]
set_option maxRecDepth 100000 in
set_option maxHeartbeats 1600000 in
theorem implHead_1 (ss : List ByteArray) (va : Option Addr) (vca : Nat) (k u v : Int) (a : Option Addr) (n cap : Nat) (w : World) (hT : HasFormulaWords w) : Calls Tryz.prog 78 #[.slice va ss.length vca, .agg #[.int .i64 1, .int .i64 k, .int .i64 u, .int .i64 v, .slice a n cap]] w (GaveB (.string (headT ss 1 k u v)) w) := by
  have HX := Lib.hid (headT_1 ss k u v)
  have hw := (hT.keeps ((Below.refl w.heap.size w).alloc (Nat.le_refl _) (.cells #[.int .i64 1, .int .i64 k, .int .i64 u, .int .i64 v, .slice a n cap] 27))).cell 1
  simp only [List.getElem?_toArray, List.getElem?_cons_succ, List.getElem?_cons_zero] at hw
  have ta0 := ta_true
  have ta1 := ta_var
  have ta2 := ta_reach
  have ta3 := ta_shared
  have ta4 := ta_next
  have ta5 := ta_same
  have ta6 := ta_path
  have ta7 := ta_not
  have ta8 := ta_and
  have ta9 := ta_or
  have ta10 := ta_some
  have ta11 := ta_all
  go_enter Tryz.func78, Tryz.ntmps78
  go_wp2_with fail
  refine (implFormOf _ _).mono ?_
  rintro e w1 ⟨rfl, rfl⟩
  simp only [formV, formT_1]
  go_wp2_with fail
  go_ret
  refine ⟨by rw [HX.out]; rfl, ?_⟩
  first | exact (Below.refl _ _).alloc (Nat.le_refl _) _ | exact Below.drew ((Below.refl _ _).alloc (Nat.le_refl _) _) | exact below_draws ((Below.refl _ _).alloc (Nat.le_refl _) _) _
set_option maxRecDepth 100000 in
set_option maxHeartbeats 1600000 in
theorem implHead_2 (ss : List ByteArray) (va : Option Addr) (vca : Nat) (k u v : Int) (a : Option Addr) (n cap : Nat) (w : World) (hT : HasFormulaWords w) (hk : 0 ≤ k ∧ k < ss.length) (hgood : ∀ s ∈ ss, s.size ≤ 2) (hrow : Row w w.heap.size va (strVals ss)) (hu : 0 ≤ u ∧ u ≤ 3) : Calls Tryz.prog 78 #[.slice va ss.length vca, .agg #[.int .i64 2, .int .i64 k, .int .i64 u, .int .i64 v, .slice a n cap]] w (GaveB (.string (headT ss 2 k u v)) w) := by
  obtain ⟨kn, rfl⟩ : ∃ kn : Nat, k = (kn : Int) := ⟨k.toNat, by omega⟩
  have hkl : kn < ss.length := by omega
  have hb0 := (Below.refl w.heap.size w).alloc (Nat.le_refl _) (.cells #[.int .i64 2, .int .i64 (kn : Int), .int .i64 u, .int .i64 v, .slice a n cap] 27)
  obtain ⟨nb, no, hva, hnb, hnc0⟩ := row_str hrow kn hkl
  have hnm : nameAt ss (kn : Int) = partT ss kn := rfl
  have hns : (partT ss kn).size ≤ 2 := total_part hgood
  have HX := Lib.hid (headT_2 ss (kn : Int) u v)
  rw [hnm] at HX
  obtain ⟨nm, hnme⟩ : ∃ nm, partT ss kn = nm := ⟨_, rfl⟩
  rw [hnme] at hnc0 hns HX
  have hnc := (hb0.cell (p := ⟨nb, no + kn, none⟩) hnb).trans hnc0
  subst hva
  clear hnm hnme hrow hgood hnc0 hb0 hk
  have hlu := letterT_size u
  have HLU := Lib.hid (fun W : World => implLetter u hu W)
  have hw := (hT.keeps ((Below.refl w.heap.size w).alloc (Nat.le_refl _) (.cells #[.int .i64 2, .int .i64 (kn : Int), .int .i64 u, .int .i64 v, .slice a n cap] 27))).cell 2
  simp only [List.getElem?_toArray, List.getElem?_cons_succ, List.getElem?_cons_zero] at hw
  have bz0 : (⟨#[111, 110]⟩ : ByteArray).size = 2 := rfl
  have bz1 : (⟨#[32]⟩ : ByteArray).size = 1 := rfl
  have bz2 : (⟨#[58]⟩ : ByteArray).size = 1 := rfl
  have ad0 := (fun W : World => run_string_add_sum (P := Tryz.prog) W ((⟨#[111, 110]⟩ : ByteArray)) ((⟨#[32]⟩ : ByteArray)) (by first | omega | (simp only [ByteArray.size_append]; omega)))
  have ad1 := (fun W : World => run_string_add_sum (P := Tryz.prog) W ((⟨#[111, 110]⟩ : ByteArray) ++ (⟨#[32]⟩ : ByteArray)) (nm) (by first | omega | (simp only [ByteArray.size_append]; omega)))
  have ad2 := (fun W : World => run_string_add_sum (P := Tryz.prog) W ((⟨#[111, 110]⟩ : ByteArray) ++ (⟨#[32]⟩ : ByteArray) ++ nm) ((⟨#[58]⟩ : ByteArray)) (by first | omega | (simp only [ByteArray.size_append]; omega)))
  have ad3 := (fun W : World => run_string_add_sum (P := Tryz.prog) W ((⟨#[111, 110]⟩ : ByteArray) ++ (⟨#[32]⟩ : ByteArray) ++ nm ++ (⟨#[58]⟩ : ByteArray)) (letterT u) (by first | omega | (simp only [ByteArray.size_append]; omega)))
  clear bz0 bz1 bz2
  have ta0 := ta_true
  have ta1 := ta_var
  have ta2 := ta_reach
  have ta3 := ta_shared
  have ta4 := ta_next
  have ta5 := ta_same
  have ta6 := ta_path
  have ta7 := ta_not
  have ta8 := ta_and
  have ta9 := ta_or
  have ta10 := ta_some
  have ta11 := ta_all
  go_enter Tryz.func78, Tryz.ntmps78
  go_wp2_with fail
  refine (implFormOf _ _).mono ?_
  rintro e w1 ⟨rfl, rfl⟩
  simp only [formV, formT_2]
  go_wp2_with fail
  go_quiet (first | (go_at_call 115; first | exact Calls.quiet_of_same (HLU.out _)))
  go_wp2_with fail
  go_ret
  refine ⟨by rw [HX.out]; rfl, ?_⟩
  first | exact (Below.refl _ _).alloc (Nat.le_refl _) _ | exact Below.drew ((Below.refl _ _).alloc (Nat.le_refl _) _) | exact below_draws ((Below.refl _ _).alloc (Nat.le_refl _) _) _
set_option maxRecDepth 100000 in
set_option maxHeartbeats 1600000 in
theorem implHead_3 (ss : List ByteArray) (va : Option Addr) (vca : Nat) (k u v : Int) (a : Option Addr) (n cap : Nat) (w : World) (hT : HasFormulaWords w) (hk : 0 ≤ k ∧ k < ss.length) (hgood : ∀ s ∈ ss, s.size ≤ 2) (hrow : Row w w.heap.size va (strVals ss)) (hu : 0 ≤ u ∧ u ≤ 3) : Calls Tryz.prog 78 #[.slice va ss.length vca, .agg #[.int .i64 3, .int .i64 k, .int .i64 u, .int .i64 v, .slice a n cap]] w (GaveB (.string (headT ss 3 k u v)) w) := by
  obtain ⟨kn, rfl⟩ : ∃ kn : Nat, k = (kn : Int) := ⟨k.toNat, by omega⟩
  have hkl : kn < ss.length := by omega
  have hb0 := (Below.refl w.heap.size w).alloc (Nat.le_refl _) (.cells #[.int .i64 3, .int .i64 (kn : Int), .int .i64 u, .int .i64 v, .slice a n cap] 27)
  obtain ⟨nb, no, hva, hnb, hnc0⟩ := row_str hrow kn hkl
  have hnm : nameAt ss (kn : Int) = partT ss kn := rfl
  have hns : (partT ss kn).size ≤ 2 := total_part hgood
  have HX := Lib.hid (headT_3 ss (kn : Int) u v)
  rw [hnm] at HX
  obtain ⟨nm, hnme⟩ : ∃ nm, partT ss kn = nm := ⟨_, rfl⟩
  rw [hnme] at hnc0 hns HX
  have hnc := (hb0.cell (p := ⟨nb, no + kn, none⟩) hnb).trans hnc0
  subst hva
  clear hnm hnme hrow hgood hnc0 hb0 hk
  have hlu := letterT_size u
  have HLU := Lib.hid (fun W : World => implLetter u hu W)
  have hw := (hT.keeps ((Below.refl w.heap.size w).alloc (Nat.le_refl _) (.cells #[.int .i64 3, .int .i64 (kn : Int), .int .i64 u, .int .i64 v, .slice a n cap] 27))).cell 3
  simp only [List.getElem?_toArray, List.getElem?_cons_succ, List.getElem?_cons_zero] at hw
  have bz0 : (⟨#[102, 114, 111, 109]⟩ : ByteArray).size = 4 := rfl
  have bz1 : (⟨#[32]⟩ : ByteArray).size = 1 := rfl
  have bz2 : (⟨#[58]⟩ : ByteArray).size = 1 := rfl
  have ad0 := (fun W : World => run_string_add_sum (P := Tryz.prog) W ((⟨#[102, 114, 111, 109]⟩ : ByteArray)) ((⟨#[32]⟩ : ByteArray)) (by first | omega | (simp only [ByteArray.size_append]; omega)))
  have ad1 := (fun W : World => run_string_add_sum (P := Tryz.prog) W ((⟨#[102, 114, 111, 109]⟩ : ByteArray) ++ (⟨#[32]⟩ : ByteArray)) (nm) (by first | omega | (simp only [ByteArray.size_append]; omega)))
  have ad2 := (fun W : World => run_string_add_sum (P := Tryz.prog) W ((⟨#[102, 114, 111, 109]⟩ : ByteArray) ++ (⟨#[32]⟩ : ByteArray) ++ nm) ((⟨#[58]⟩ : ByteArray)) (by first | omega | (simp only [ByteArray.size_append]; omega)))
  have ad3 := (fun W : World => run_string_add_sum (P := Tryz.prog) W ((⟨#[102, 114, 111, 109]⟩ : ByteArray) ++ (⟨#[32]⟩ : ByteArray) ++ nm ++ (⟨#[58]⟩ : ByteArray)) (letterT u) (by first | omega | (simp only [ByteArray.size_append]; omega)))
  clear bz0 bz1 bz2
  have ta0 := ta_true
  have ta1 := ta_var
  have ta2 := ta_reach
  have ta3 := ta_shared
  have ta4 := ta_next
  have ta5 := ta_same
  have ta6 := ta_path
  have ta7 := ta_not
  have ta8 := ta_and
  have ta9 := ta_or
  have ta10 := ta_some
  have ta11 := ta_all
  go_enter Tryz.func78, Tryz.ntmps78
  go_wp2_with fail
  refine (implFormOf _ _).mono ?_
  rintro e w1 ⟨rfl, rfl⟩
  simp only [formV, formT_3]
  go_wp2_with fail
  go_quiet (first | (go_at_call 115; first | exact Calls.quiet_of_same (HLU.out _)))
  go_wp2_with fail
  go_ret
  refine ⟨by rw [HX.out]; rfl, ?_⟩
  first | exact (Below.refl _ _).alloc (Nat.le_refl _) _ | exact Below.drew ((Below.refl _ _).alloc (Nat.le_refl _) _) | exact below_draws ((Below.refl _ _).alloc (Nat.le_refl _) _) _
set_option maxRecDepth 100000 in
set_option maxHeartbeats 1600000 in
theorem implHead_4 (ss : List ByteArray) (va : Option Addr) (vca : Nat) (k u v : Int) (a : Option Addr) (n cap : Nat) (w : World) (hT : HasFormulaWords w) (hu : 0 ≤ u ∧ u ≤ 3) : Calls Tryz.prog 78 #[.slice va ss.length vca, .agg #[.int .i64 4, .int .i64 k, .int .i64 u, .int .i64 v, .slice a n cap]] w (GaveB (.string (headT ss 4 k u v)) w) := by
  have HX := Lib.hid (headT_4 ss k u v)
  have hlu := letterT_size u
  have HLU := Lib.hid (fun W : World => implLetter u hu W)
  have hw := (hT.keeps ((Below.refl w.heap.size w).alloc (Nat.le_refl _) (.cells #[.int .i64 4, .int .i64 k, .int .i64 u, .int .i64 v, .slice a n cap] 27))).cell 4
  simp only [List.getElem?_toArray, List.getElem?_cons_succ, List.getElem?_cons_zero] at hw
  have bz0 : (⟨#[115, 104, 97, 114, 101, 100]⟩ : ByteArray).size = 6 := rfl
  have bz1 : (⟨#[58]⟩ : ByteArray).size = 1 := rfl
  have ad0 := (fun W : World => run_string_add_sum (P := Tryz.prog) W ((⟨#[115, 104, 97, 114, 101, 100]⟩ : ByteArray)) ((⟨#[58]⟩ : ByteArray)) (by first | omega | (simp only [ByteArray.size_append]; omega)))
  have ad1 := (fun W : World => run_string_add_sum (P := Tryz.prog) W ((⟨#[115, 104, 97, 114, 101, 100]⟩ : ByteArray) ++ (⟨#[58]⟩ : ByteArray)) (letterT u) (by first | omega | (simp only [ByteArray.size_append]; omega)))
  clear bz0 bz1
  have ta0 := ta_true
  have ta1 := ta_var
  have ta2 := ta_reach
  have ta3 := ta_shared
  have ta4 := ta_next
  have ta5 := ta_same
  have ta6 := ta_path
  have ta7 := ta_not
  have ta8 := ta_and
  have ta9 := ta_or
  have ta10 := ta_some
  have ta11 := ta_all
  go_enter Tryz.func78, Tryz.ntmps78
  go_wp2_with fail
  refine (implFormOf _ _).mono ?_
  rintro e w1 ⟨rfl, rfl⟩
  simp only [formV, formT_4]
  go_wp2_with fail
  refine (HLU.out _).mono ?_
  rintro e w2 ⟨rfl, rfl⟩
  go_wp2_with fail
  go_ret
  refine ⟨by rw [HX.out]; rfl, ?_⟩
  first | exact (Below.refl _ _).alloc (Nat.le_refl _) _ | exact Below.drew ((Below.refl _ _).alloc (Nat.le_refl _) _) | exact below_draws ((Below.refl _ _).alloc (Nat.le_refl _) _) _
set_option maxRecDepth 100000 in
set_option maxHeartbeats 1600000 in
theorem implHead_5 (ss : List ByteArray) (va : Option Addr) (vca : Nat) (k u v : Int) (a : Option Addr) (n cap : Nat) (w : World) (hT : HasFormulaWords w) (hu : 0 ≤ u ∧ u ≤ 3) (hv : 0 ≤ v ∧ v ≤ 3) : Calls Tryz.prog 78 #[.slice va ss.length vca, .agg #[.int .i64 5, .int .i64 k, .int .i64 u, .int .i64 v, .slice a n cap]] w (GaveB (.string (headT ss 5 k u v)) w) := by
  have HX := Lib.hid (headT_5 ss k u v)
  have hlu := letterT_size u
  have HLU := Lib.hid (fun W : World => implLetter u hu W)
  have hlv := letterT_size v
  have HLV := Lib.hid (fun W : World => implLetter v hv W)
  have hw := (hT.keeps ((Below.refl w.heap.size w).alloc (Nat.le_refl _) (.cells #[.int .i64 5, .int .i64 k, .int .i64 u, .int .i64 v, .slice a n cap] 27))).cell 5
  simp only [List.getElem?_toArray, List.getElem?_cons_succ, List.getElem?_cons_zero] at hw
  have bz0 : (⟨#[110, 101, 120, 116]⟩ : ByteArray).size = 4 := rfl
  have bz1 : (⟨#[58]⟩ : ByteArray).size = 1 := rfl
  have ad0 := (fun W : World => run_string_add_sum (P := Tryz.prog) W ((⟨#[110, 101, 120, 116]⟩ : ByteArray)) ((⟨#[58]⟩ : ByteArray)) (by first | omega | (simp only [ByteArray.size_append]; omega)))
  have ad1 := (fun W : World => run_string_add_sum (P := Tryz.prog) W ((⟨#[110, 101, 120, 116]⟩ : ByteArray) ++ (⟨#[58]⟩ : ByteArray)) (letterT u) (by first | omega | (simp only [ByteArray.size_append]; omega)))
  have ad2 := (fun W : World => run_string_add_sum (P := Tryz.prog) W ((⟨#[110, 101, 120, 116]⟩ : ByteArray) ++ (⟨#[58]⟩ : ByteArray) ++ letterT u) (letterT v) (by first | omega | (simp only [ByteArray.size_append]; omega)))
  clear bz0 bz1
  have ta0 := ta_true
  have ta1 := ta_var
  have ta2 := ta_reach
  have ta3 := ta_shared
  have ta4 := ta_next
  have ta5 := ta_same
  have ta6 := ta_path
  have ta7 := ta_not
  have ta8 := ta_and
  have ta9 := ta_or
  have ta10 := ta_some
  have ta11 := ta_all
  go_enter Tryz.func78, Tryz.ntmps78
  go_wp2_with fail
  refine (implFormOf _ _).mono ?_
  rintro e w1 ⟨rfl, rfl⟩
  simp only [formV, formT_5]
  go_wp2_with fail
  go_quiet (first | (go_at_call 115; first | exact Calls.quiet_of_same (HLU.out _) | exact Calls.quiet_of_same (HLV.out _)))
  go_wp2_with fail
  go_ret
  refine ⟨by rw [HX.out]; rfl, ?_⟩
  first | exact (Below.refl _ _).alloc (Nat.le_refl _) _ | exact Below.drew ((Below.refl _ _).alloc (Nat.le_refl _) _) | exact below_draws ((Below.refl _ _).alloc (Nat.le_refl _) _) _
set_option maxRecDepth 100000 in
set_option maxHeartbeats 1600000 in
theorem implHead_6 (ss : List ByteArray) (va : Option Addr) (vca : Nat) (k u v : Int) (a : Option Addr) (n cap : Nat) (w : World) (hT : HasFormulaWords w) (hu : 0 ≤ u ∧ u ≤ 3) (hv : 0 ≤ v ∧ v ≤ 3) : Calls Tryz.prog 78 #[.slice va ss.length vca, .agg #[.int .i64 6, .int .i64 k, .int .i64 u, .int .i64 v, .slice a n cap]] w (GaveB (.string (headT ss 6 k u v)) w) := by
  have HX := Lib.hid (headT_6 ss k u v)
  have hlu := letterT_size u
  have HLU := Lib.hid (fun W : World => implLetter u hu W)
  have hlv := letterT_size v
  have HLV := Lib.hid (fun W : World => implLetter v hv W)
  have hw := (hT.keeps ((Below.refl w.heap.size w).alloc (Nat.le_refl _) (.cells #[.int .i64 6, .int .i64 k, .int .i64 u, .int .i64 v, .slice a n cap] 27))).cell 6
  simp only [List.getElem?_toArray, List.getElem?_cons_succ, List.getElem?_cons_zero] at hw
  have bz0 : (⟨#[115, 97, 109, 101]⟩ : ByteArray).size = 4 := rfl
  have bz1 : (⟨#[58]⟩ : ByteArray).size = 1 := rfl
  have ad0 := (fun W : World => run_string_add_sum (P := Tryz.prog) W ((⟨#[115, 97, 109, 101]⟩ : ByteArray)) ((⟨#[58]⟩ : ByteArray)) (by first | omega | (simp only [ByteArray.size_append]; omega)))
  have ad1 := (fun W : World => run_string_add_sum (P := Tryz.prog) W ((⟨#[115, 97, 109, 101]⟩ : ByteArray) ++ (⟨#[58]⟩ : ByteArray)) (letterT u) (by first | omega | (simp only [ByteArray.size_append]; omega)))
  have ad2 := (fun W : World => run_string_add_sum (P := Tryz.prog) W ((⟨#[115, 97, 109, 101]⟩ : ByteArray) ++ (⟨#[58]⟩ : ByteArray) ++ letterT u) (letterT v) (by first | omega | (simp only [ByteArray.size_append]; omega)))
  clear bz0 bz1
  have ta0 := ta_true
  have ta1 := ta_var
  have ta2 := ta_reach
  have ta3 := ta_shared
  have ta4 := ta_next
  have ta5 := ta_same
  have ta6 := ta_path
  have ta7 := ta_not
  have ta8 := ta_and
  have ta9 := ta_or
  have ta10 := ta_some
  have ta11 := ta_all
  go_enter Tryz.func78, Tryz.ntmps78
  go_wp2_with fail
  refine (implFormOf _ _).mono ?_
  rintro e w1 ⟨rfl, rfl⟩
  simp only [formV, formT_6]
  go_wp2_with fail
  go_quiet (first | (go_at_call 115; first | exact Calls.quiet_of_same (HLU.out _) | exact Calls.quiet_of_same (HLV.out _)))
  go_wp2_with fail
  go_ret
  refine ⟨by rw [HX.out]; rfl, ?_⟩
  first | exact (Below.refl _ _).alloc (Nat.le_refl _) _ | exact Below.drew ((Below.refl _ _).alloc (Nat.le_refl _) _) | exact below_draws ((Below.refl _ _).alloc (Nat.le_refl _) _) _
set_option maxRecDepth 100000 in
set_option maxHeartbeats 1600000 in
theorem implHead_7 (ss : List ByteArray) (va : Option Addr) (vca : Nat) (k u v : Int) (a : Option Addr) (n cap : Nat) (w : World) (hT : HasFormulaWords w) (hu : 0 ≤ u ∧ u ≤ 3) (hv : 0 ≤ v ∧ v ≤ 3) : Calls Tryz.prog 78 #[.slice va ss.length vca, .agg #[.int .i64 7, .int .i64 k, .int .i64 u, .int .i64 v, .slice a n cap]] w (GaveB (.string (headT ss 7 k u v)) w) := by
  have HX := Lib.hid (headT_7 ss k u v)
  have hlu := letterT_size u
  have HLU := Lib.hid (fun W : World => implLetter u hu W)
  have hlv := letterT_size v
  have HLV := Lib.hid (fun W : World => implLetter v hv W)
  have hw := (hT.keeps ((Below.refl w.heap.size w).alloc (Nat.le_refl _) (.cells #[.int .i64 7, .int .i64 k, .int .i64 u, .int .i64 v, .slice a n cap] 27))).cell 7
  simp only [List.getElem?_toArray, List.getElem?_cons_succ, List.getElem?_cons_zero] at hw
  have bz0 : (⟨#[112, 97, 116, 104]⟩ : ByteArray).size = 4 := rfl
  have bz1 : (⟨#[58]⟩ : ByteArray).size = 1 := rfl
  have ad0 := (fun W : World => run_string_add_sum (P := Tryz.prog) W ((⟨#[112, 97, 116, 104]⟩ : ByteArray)) ((⟨#[58]⟩ : ByteArray)) (by first | omega | (simp only [ByteArray.size_append]; omega)))
  have ad1 := (fun W : World => run_string_add_sum (P := Tryz.prog) W ((⟨#[112, 97, 116, 104]⟩ : ByteArray) ++ (⟨#[58]⟩ : ByteArray)) (letterT u) (by first | omega | (simp only [ByteArray.size_append]; omega)))
  have ad2 := (fun W : World => run_string_add_sum (P := Tryz.prog) W ((⟨#[112, 97, 116, 104]⟩ : ByteArray) ++ (⟨#[58]⟩ : ByteArray) ++ letterT u) (letterT v) (by first | omega | (simp only [ByteArray.size_append]; omega)))
  clear bz0 bz1
  have ta0 := ta_true
  have ta1 := ta_var
  have ta2 := ta_reach
  have ta3 := ta_shared
  have ta4 := ta_next
  have ta5 := ta_same
  have ta6 := ta_path
  have ta7 := ta_not
  have ta8 := ta_and
  have ta9 := ta_or
  have ta10 := ta_some
  have ta11 := ta_all
  go_enter Tryz.func78, Tryz.ntmps78
  go_wp2_with fail
  refine (implFormOf _ _).mono ?_
  rintro e w1 ⟨rfl, rfl⟩
  simp only [formV, formT_7]
  go_wp2_with fail
  go_quiet (first | (go_at_call 115; first | exact Calls.quiet_of_same (HLU.out _) | exact Calls.quiet_of_same (HLV.out _)))
  go_wp2_with fail
  go_ret
  refine ⟨by rw [HX.out]; rfl, ?_⟩
  first | exact (Below.refl _ _).alloc (Nat.le_refl _) _ | exact Below.drew ((Below.refl _ _).alloc (Nat.le_refl _) _) | exact below_draws ((Below.refl _ _).alloc (Nat.le_refl _) _) _
set_option maxRecDepth 100000 in
set_option maxHeartbeats 1600000 in
theorem implHead_8 (ss : List ByteArray) (va : Option Addr) (vca : Nat) (k u v : Int) (a : Option Addr) (n cap : Nat) (w : World) (hT : HasFormulaWords w) : Calls Tryz.prog 78 #[.slice va ss.length vca, .agg #[.int .i64 8, .int .i64 k, .int .i64 u, .int .i64 v, .slice a n cap]] w (GaveB (.string (headT ss 8 k u v)) w) := by
  have HX := Lib.hid (headT_8 ss k u v)
  have hw := (hT.keeps ((Below.refl w.heap.size w).alloc (Nat.le_refl _) (.cells #[.int .i64 8, .int .i64 k, .int .i64 u, .int .i64 v, .slice a n cap] 27))).cell 8
  simp only [List.getElem?_toArray, List.getElem?_cons_succ, List.getElem?_cons_zero] at hw
  have ta0 := ta_true
  have ta1 := ta_var
  have ta2 := ta_reach
  have ta3 := ta_shared
  have ta4 := ta_next
  have ta5 := ta_same
  have ta6 := ta_path
  have ta7 := ta_not
  have ta8 := ta_and
  have ta9 := ta_or
  have ta10 := ta_some
  have ta11 := ta_all
  go_enter Tryz.func78, Tryz.ntmps78
  go_wp2_with fail
  refine (implFormOf _ _).mono ?_
  rintro e w1 ⟨rfl, rfl⟩
  simp only [formV, formT_8]
  go_wp2_with fail
  go_ret
  refine ⟨by rw [HX.out]; rfl, ?_⟩
  first | exact (Below.refl _ _).alloc (Nat.le_refl _) _ | exact Below.drew ((Below.refl _ _).alloc (Nat.le_refl _) _) | exact below_draws ((Below.refl _ _).alloc (Nat.le_refl _) _) _
set_option maxRecDepth 100000 in
set_option maxHeartbeats 1600000 in
theorem implHead_11 (ss : List ByteArray) (va : Option Addr) (vca : Nat) (k u v : Int) (a : Option Addr) (n cap : Nat) (w : World) (hT : HasFormulaWords w) (hu : 0 ≤ u ∧ u ≤ 3) : Calls Tryz.prog 78 #[.slice va ss.length vca, .agg #[.int .i64 11, .int .i64 k, .int .i64 u, .int .i64 v, .slice a n cap]] w (GaveB (.string (headT ss 11 k u v)) w) := by
  have HX := Lib.hid (headT_11 ss k u v)
  have hlu := letterT_size u
  have HLU := Lib.hid (fun W : World => implLetter u hu W)
  have hw := (hT.keeps ((Below.refl w.heap.size w).alloc (Nat.le_refl _) (.cells #[.int .i64 11, .int .i64 k, .int .i64 u, .int .i64 v, .slice a n cap] 27))).cell 11
  simp only [List.getElem?_toArray, List.getElem?_cons_succ, List.getElem?_cons_zero] at hw
  have bz0 : (⟨#[115, 111, 109, 101]⟩ : ByteArray).size = 4 := rfl
  have bz1 : (⟨#[32]⟩ : ByteArray).size = 1 := rfl
  have bz2 : (⟨#[46]⟩ : ByteArray).size = 1 := rfl
  have ad0 := (fun W : World => run_string_add_sum (P := Tryz.prog) W ((⟨#[115, 111, 109, 101]⟩ : ByteArray)) ((⟨#[32]⟩ : ByteArray)) (by first | omega | (simp only [ByteArray.size_append]; omega)))
  have ad1 := (fun W : World => run_string_add_sum (P := Tryz.prog) W ((⟨#[115, 111, 109, 101]⟩ : ByteArray) ++ (⟨#[32]⟩ : ByteArray)) (letterT u) (by first | omega | (simp only [ByteArray.size_append]; omega)))
  have ad2 := (fun W : World => run_string_add_sum (P := Tryz.prog) W ((⟨#[115, 111, 109, 101]⟩ : ByteArray) ++ (⟨#[32]⟩ : ByteArray) ++ letterT u) ((⟨#[46]⟩ : ByteArray)) (by first | omega | (simp only [ByteArray.size_append]; omega)))
  clear bz0 bz1 bz2
  have ta0 := ta_true
  have ta1 := ta_var
  have ta2 := ta_reach
  have ta3 := ta_shared
  have ta4 := ta_next
  have ta5 := ta_same
  have ta6 := ta_path
  have ta7 := ta_not
  have ta8 := ta_and
  have ta9 := ta_or
  have ta10 := ta_some
  have ta11 := ta_all
  go_enter Tryz.func78, Tryz.ntmps78
  go_wp2_with fail
  refine (implFormOf _ _).mono ?_
  rintro e w1 ⟨rfl, rfl⟩
  simp only [formV, formT_11]
  go_wp2_with fail
  refine (HLU.out _).mono ?_
  rintro e w2 ⟨rfl, rfl⟩
  go_wp2_with fail
  go_ret
  refine ⟨by rw [HX.out]; rfl, ?_⟩
  first | exact (Below.refl _ _).alloc (Nat.le_refl _) _ | exact Below.drew ((Below.refl _ _).alloc (Nat.le_refl _) _) | exact below_draws ((Below.refl _ _).alloc (Nat.le_refl _) _) _
set_option maxRecDepth 100000 in
set_option maxHeartbeats 1600000 in
theorem implHead_12 (ss : List ByteArray) (va : Option Addr) (vca : Nat) (k u v : Int) (a : Option Addr) (n cap : Nat) (w : World) (hT : HasFormulaWords w) (hu : 0 ≤ u ∧ u ≤ 3) : Calls Tryz.prog 78 #[.slice va ss.length vca, .agg #[.int .i64 12, .int .i64 k, .int .i64 u, .int .i64 v, .slice a n cap]] w (GaveB (.string (headT ss 12 k u v)) w) := by
  have HX := Lib.hid (headT_12 ss k u v)
  have hlu := letterT_size u
  have HLU := Lib.hid (fun W : World => implLetter u hu W)
  have hw := (hT.keeps ((Below.refl w.heap.size w).alloc (Nat.le_refl _) (.cells #[.int .i64 12, .int .i64 k, .int .i64 u, .int .i64 v, .slice a n cap] 27))).cell 12
  simp only [List.getElem?_toArray, List.getElem?_cons_succ, List.getElem?_cons_zero] at hw
  have bz0 : (⟨#[97, 108, 108]⟩ : ByteArray).size = 3 := rfl
  have bz1 : (⟨#[32]⟩ : ByteArray).size = 1 := rfl
  have bz2 : (⟨#[46]⟩ : ByteArray).size = 1 := rfl
  have ad0 := (fun W : World => run_string_add_sum (P := Tryz.prog) W ((⟨#[97, 108, 108]⟩ : ByteArray)) ((⟨#[32]⟩ : ByteArray)) (by first | omega | (simp only [ByteArray.size_append]; omega)))
  have ad1 := (fun W : World => run_string_add_sum (P := Tryz.prog) W ((⟨#[97, 108, 108]⟩ : ByteArray) ++ (⟨#[32]⟩ : ByteArray)) (letterT u) (by first | omega | (simp only [ByteArray.size_append]; omega)))
  have ad2 := (fun W : World => run_string_add_sum (P := Tryz.prog) W ((⟨#[97, 108, 108]⟩ : ByteArray) ++ (⟨#[32]⟩ : ByteArray) ++ letterT u) ((⟨#[46]⟩ : ByteArray)) (by first | omega | (simp only [ByteArray.size_append]; omega)))
  clear bz0 bz1 bz2
  have ta0 := ta_true
  have ta1 := ta_var
  have ta2 := ta_reach
  have ta3 := ta_shared
  have ta4 := ta_next
  have ta5 := ta_same
  have ta6 := ta_path
  have ta7 := ta_not
  have ta8 := ta_and
  have ta9 := ta_or
  have ta10 := ta_some
  have ta11 := ta_all
  go_enter Tryz.func78, Tryz.ntmps78
  go_wp2_with fail
  refine (implFormOf _ _).mono ?_
  rintro e w1 ⟨rfl, rfl⟩
  simp only [formV, formT_12]
  go_wp2_with fail
  refine (HLU.out _).mono ?_
  rintro e w2 ⟨rfl, rfl⟩
  go_wp2_with fail
  go_ret
  refine ⟨by rw [HX.out]; rfl, ?_⟩
  first | exact (Below.refl _ _).alloc (Nat.le_refl _) _ | exact Below.drew ((Below.refl _ _).alloc (Nat.le_refl _) _) | exact below_draws ((Below.refl _ _).alloc (Nat.le_refl _) _) _
end Go.Proofs.YtplchhahjmoodaaGreatDoor
