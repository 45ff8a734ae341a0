/-
  The program's guess of a node by its head. (Printed by wip/tools/gen_guess_node.py.)
-/
import Derived.Test.YtplchhahjmoodaaGreatDoorZ38
import Derived.Test.YtplchhahjmoodaaGreatDoorZ20
import Derived.Test.YtplchhahjmoodaaGreatDoorZ18
import Derived.Test.YtplchhahjmoodaaGreatDoorZ16
import Derived.Test.YtplchhahjmoodaaGreatDoorZ06
namespace Go.Proofs.YtplchhahjmoodaaGreatDoor
open Go Go.RowKit

/-- A node without parts, as a value. -/
abbrev leafV (f : Fm) : Value := .agg #[.int .i64 f.kd, .int .i64 f.k, .int .i64 f.u, .int .i64 f.v, .slice none 0 0]
abbrev leafC (kd k u v : Int) : Value := .agg #[.int .i64 kd, .int .i64 k, .int .i64 u, .int .i64 v, .slice none 0 0]
theorem set5 {W : World} {g : Nat} {xs : List Value} (h : BoxL W g xs) (u0 u1 u2 u3 u4 : Value) (hl : xs.length = 5) : BoxL (((((W.setCell ⟨g, 0, none⟩ u0).setCell ⟨g, 1, none⟩ u1).setCell ⟨g, 2, none⟩ u2).setCell ⟨g, 3, none⟩ u3).setCell ⟨g, 4, none⟩ u4) g [u0, u1, u2, u3, u4] := by
  have h5 := ((((h.set 0 u0).set 1 u1).set 2 u2).set 3 u3).set 4 u4
  match xs, hl with
  | [a, b, c, d, e], _ => exact h5
/-- What a guess of a node needs of the world. -/
structure GuessW (ss : List ByteArray) (va : Option Addr) (w : World) : Prop where
  row : Row w w.heap.size va (strVals ss)
  words : HasFormulaWords w
  sw : SwC w
theorem GuessW.keeps {ss : List ByteArray} {va : Option Addr} {w w' : World} (h : GuessW ss va w) (hb : Below w.heap.size w w') : GuessW ss va w' := ⟨(h.row.below hb).grow hb.size, h.words.keeps hb, h.sw.keeps hb⟩
theorem formT_other {k : Int} (h : ¬ (k = 2 ∨ k = 3 ∨ k = 4 ∨ k = 5 ∨ k = 6 ∨ k = 7 ∨ k = 11 ∨ k = 12)) : (formT k == 149) = false ∧ (formT k == 150) = false ∧ (formT k == 151) = false ∧ (formT k == 154) = false ∧ (formT k == 155) = false ∧ (formT k == 156) = false ∧ (formT k == 152) = false ∧ (formT k == 153) = false := by
  rcases kind_cases k with h1 | h1 | h1 | h1 | h1 | h1 | h1 | h1 | h1 | h1 | h1 | h1 | h1
  all_goals first
    | (exfalso; omega)
    | (subst h1; decide)
    | (rw [formT_no h1]; decide)
theorem one_boxL5 (w : World) (xs : List Value) (t : TypeId) : ∃ W0, w.alloc (.cells xs.toArray t) = W0 ∧ Below w.heap.size w W0 ∧ BoxL W0 w.heap.size xs :=
  ⟨_, rfl, (Below.refl _ _).alloc (Nat.le_refl _) _, BoxL.new w xs t⟩
set_option maxRecDepth 100000 in
set_option maxHeartbeats 1600000 in
theorem implGuessNode_2 (ss : List ByteArray) (va : Option Addr) (vca : Nat) (s wd rs : ByteArray) (w : World) (hs : s.size ≤ 1048576) (hlen : ss.length ≤ maxLen) (hcw : (⟨(cutW s.data.toList).1.toArray⟩ : ByteArray) = wd ∧ (⟨(cutW s.data.toList).2.toArray⟩ : ByteArray) = rs) (hrs : rs.size ≤ 1048576) (hkd : place formWords wd = 2) (hW : GuessW ss va w) :
    Calls Tryz.prog 120 #[.slice va ss.length vca, .string s] w (GaveX (leafC 2 (place ss ⟨(cutC rs.data.toList).1.toArray⟩) (logicP (cutC rs.data.toList).2 0) (0)) w) := by
  have HW := Lib.hid (fun (W : World) (h : Below w.heap.size w W) => hW.keeps h)
  have hC := implCutWord s
  rw [hcw.1, hcw.2] at hC
  have HC := Lib.hid hC
  have HK := Lib.hid hkd
  clear hC hcw hkd hW
  have ta0 := ta_var
  have ta1 := ta_reach
  have ta2 := ta_shared
  have ta3 := ta_next
  have ta4 := ta_same
  have ta5 := ta_path
  have ta6 := ta_some
  have ta7 := ta_all
  go_enter Tryz.func120, Tryz.ntmps120
  go_wp2_with fail
  obtain ⟨W0, hW0, hb0, br0⟩ := one_boxL5 w [.int .i64 0, .int .i64 0, .int .i64 0, .int .i64 0, .slice none 0 0] 27
  simp only [List.toArray] at hW0
  rw [hW0]
  clear hW0
  refine (HC.out W0 hs).mono ?_
  rintro e w1 ⟨rfl, hb1⟩
  have hB1 := hb0.trans (hb1.mono hb0.size)
  have br1 := br0.below hb1
  go_wp2_with fail
  refine (implKindOfWord wd _ (HW.out _ hB1).words).mono ?_
  rw [HK.out]
  rintro e w2 ⟨rfl, rfl⟩
  go_wp2_with fail
  obtain ⟨W2, hW2, hb2, bf2⟩ := one_boxL5 w1 [.int .i64 (2), .int .i64 0, .int .i64 0, .int .i64 0, .slice none 0 0] 27
  simp only [List.toArray] at hW2
  rw [hW2]
  clear hW2
  have br2 := br1.below hb2
  have hB2 := hB1.trans (hb2.mono hB1.size)
  have hlt := br1.lt
  clear br0 br1 hb0 hb1 hb2
  refine (implFormOf 2 _).mono ?_
  rintro e w3 ⟨rfl, hw3⟩
  obtain rfl := hw3.symm
  obtain ⟨m, hm⟩ := (HW.out _ hB2).sw
  have hS := Tryz.strings_Cut rs ⟨#[58]⟩ m W2 (by omega) hm
  rw [show (⟨#[58]⟩ : ByteArray).data.toList = [58] from rfl, (lib_cut rs.data.toList).1, (lib_cut rs.data.toList).2] at hS
  have HS := Lib.hid hS
  have hl0 : ∀ V, Calls Tryz.prog 135 #[.string ⟨(cutC rs.data.toList).2.toArray⟩, .int .i64 0] V fun e w' => e = .returned (.int .i64 (logicP (cutC rs.data.toList).2 0)) ∧ w' = V := fun V => implLogicAt ⟨(cutC rs.data.toList).2.toArray⟩ 0 V
  have HL0 := Lib.hid hl0
  clear hS hm hl0
  simp only [formV, formT_2]
  have f0 := bf2.c 0 _ rfl
  have f1 := bf2.c 1 _ rfl
  have f2 := bf2.c 2 _ rfl
  have f3 := bf2.c 3 _ rfl
  have f4 := bf2.c 4 _ rfl
  have ff := bf2.f
  have r0 := br2.c 0 _ rfl
  have r1 := br2.c 1 _ rfl
  have r2 := br2.c 2 _ rfl
  have r3 := br2.c 3 _ rfl
  have r4 := br2.c 4 _ rfl
  have rf := br2.f
  go_wp2_with fail
  refine HS.out.mono ?_
  rintro e w4 ⟨rfl, n, rfl⟩
  have hB4 := below_draws hB2 n
  go_wp2_with fail
  refine (implIndexOf va vca ss _ _ hlen (HW.out _ hB4).row).mono ?_
  rintro e w5 ⟨rfl, rfl⟩
  go_wp2_with fail
  refine (HL0.out _).mono ?_
  rintro e w6 ⟨rfl, hw6⟩
  obtain rfl := hw6.symm
  go_wp2
  obtain ⟨V, hV, hrV, hbV⟩ : ∃ V, ((W2.drewN n).setCell ⟨w1.heap.size, 1, none⟩ (.int .i64 (place ss ⟨(cutC rs.data.toList).1.toArray⟩))).setCell ⟨w1.heap.size, 2, none⟩ (.int .i64 (logicP (cutC rs.data.toList).2 0)) = V ∧ BoxL V w.heap.size [.int .i64 0, .int .i64 0, .int .i64 0, .int .i64 0, .slice none 0 0] ∧ Below w.heap.size w V := ⟨_, rfl, ((br2.below (below_draws (Below.refl _ _) n)).turn (turn_set _ _ 1 _) (.inl hlt)).turn (turn_set _ _ 2 _) (.inl hlt), ((hB4).setCell (by simp; omega) _).setCell (by simp; omega) _⟩
  rw [hV]
  clear hV
  have b5 := set5 hrV (.int .i64 (2)) (.int .i64 (place ss ⟨(cutC rs.data.toList).1.toArray⟩)) (.int .i64 (logicP (cutC rs.data.toList).2 0)) (.int .i64 (0)) (.slice none 0 0) rfl
  have hb5 := ((((hbV.setCell (p := ⟨w.heap.size, 0, none⟩) (Nat.le_refl _) (.int .i64 (2))).setCell (p := ⟨w.heap.size, 1, none⟩) (Nat.le_refl _) (.int .i64 (place ss ⟨(cutC rs.data.toList).1.toArray⟩))).setCell (p := ⟨w.heap.size, 2, none⟩) (Nat.le_refl _) (.int .i64 (logicP (cutC rs.data.toList).2 0))).setCell (p := ⟨w.heap.size, 3, none⟩) (Nat.le_refl _) (.int .i64 (0))).setCell (p := ⟨w.heap.size, 4, none⟩) (Nat.le_refl _) (.slice none 0 0)
  have s0 := b5.c 0 _ rfl
  have s1 := b5.c 1 _ rfl
  have s2 := b5.c 2 _ rfl
  have s3 := b5.c 3 _ rfl
  have s4 := b5.c 4 _ rfl
  exact bodyPost_ret (v := leafC (2) (place ss ⟨(cutC rs.data.toList).1.toArray⟩) (logicP (cutC rs.data.toList).2 0) (0)) (by simp [results, Tryz.results120, go_sem, s0, s1, s2, s3, s4]) rfl ⟨rfl, hb5⟩
set_option maxRecDepth 100000 in
set_option maxHeartbeats 1600000 in
theorem implGuessNode_3 (ss : List ByteArray) (va : Option Addr) (vca : Nat) (s wd rs : ByteArray) (w : World) (hs : s.size ≤ 1048576) (hlen : ss.length ≤ maxLen) (hcw : (⟨(cutW s.data.toList).1.toArray⟩ : ByteArray) = wd ∧ (⟨(cutW s.data.toList).2.toArray⟩ : ByteArray) = rs) (hrs : rs.size ≤ 1048576) (hkd : place formWords wd = 3) (hW : GuessW ss va w) :
    Calls Tryz.prog 120 #[.slice va ss.length vca, .string s] w (GaveX (leafC 3 (place ss ⟨(cutC rs.data.toList).1.toArray⟩) (logicP (cutC rs.data.toList).2 0) (0)) w) := by
  have HW := Lib.hid (fun (W : World) (h : Below w.heap.size w W) => hW.keeps h)
  have hC := implCutWord s
  rw [hcw.1, hcw.2] at hC
  have HC := Lib.hid hC
  have HK := Lib.hid hkd
  clear hC hcw hkd hW
  have ta0 := ta_var
  have ta1 := ta_reach
  have ta2 := ta_shared
  have ta3 := ta_next
  have ta4 := ta_same
  have ta5 := ta_path
  have ta6 := ta_some
  have ta7 := ta_all
  go_enter Tryz.func120, Tryz.ntmps120
  go_wp2_with fail
  obtain ⟨W0, hW0, hb0, br0⟩ := one_boxL5 w [.int .i64 0, .int .i64 0, .int .i64 0, .int .i64 0, .slice none 0 0] 27
  simp only [List.toArray] at hW0
  rw [hW0]
  clear hW0
  refine (HC.out W0 hs).mono ?_
  rintro e w1 ⟨rfl, hb1⟩
  have hB1 := hb0.trans (hb1.mono hb0.size)
  have br1 := br0.below hb1
  go_wp2_with fail
  refine (implKindOfWord wd _ (HW.out _ hB1).words).mono ?_
  rw [HK.out]
  rintro e w2 ⟨rfl, rfl⟩
  go_wp2_with fail
  obtain ⟨W2, hW2, hb2, bf2⟩ := one_boxL5 w1 [.int .i64 (3), .int .i64 0, .int .i64 0, .int .i64 0, .slice none 0 0] 27
  simp only [List.toArray] at hW2
  rw [hW2]
  clear hW2
  have br2 := br1.below hb2
  have hB2 := hB1.trans (hb2.mono hB1.size)
  have hlt := br1.lt
  clear br0 br1 hb0 hb1 hb2
  refine (implFormOf 3 _).mono ?_
  rintro e w3 ⟨rfl, hw3⟩
  obtain rfl := hw3.symm
  obtain ⟨m, hm⟩ := (HW.out _ hB2).sw
  have hS := Tryz.strings_Cut rs ⟨#[58]⟩ m W2 (by omega) hm
  rw [show (⟨#[58]⟩ : ByteArray).data.toList = [58] from rfl, (lib_cut rs.data.toList).1, (lib_cut rs.data.toList).2] at hS
  have HS := Lib.hid hS
  have hl0 : ∀ V, Calls Tryz.prog 135 #[.string ⟨(cutC rs.data.toList).2.toArray⟩, .int .i64 0] V fun e w' => e = .returned (.int .i64 (logicP (cutC rs.data.toList).2 0)) ∧ w' = V := fun V => implLogicAt ⟨(cutC rs.data.toList).2.toArray⟩ 0 V
  have HL0 := Lib.hid hl0
  clear hS hm hl0
  simp only [formV, formT_3]
  have f0 := bf2.c 0 _ rfl
  have f1 := bf2.c 1 _ rfl
  have f2 := bf2.c 2 _ rfl
  have f3 := bf2.c 3 _ rfl
  have f4 := bf2.c 4 _ rfl
  have ff := bf2.f
  have r0 := br2.c 0 _ rfl
  have r1 := br2.c 1 _ rfl
  have r2 := br2.c 2 _ rfl
  have r3 := br2.c 3 _ rfl
  have r4 := br2.c 4 _ rfl
  have rf := br2.f
  go_wp2_with fail
  refine HS.out.mono ?_
  rintro e w4 ⟨rfl, n, rfl⟩
  have hB4 := below_draws hB2 n
  go_wp2_with fail
  refine (implIndexOf va vca ss _ _ hlen (HW.out _ hB4).row).mono ?_
  rintro e w5 ⟨rfl, rfl⟩
  go_wp2_with fail
  refine (HL0.out _).mono ?_
  rintro e w6 ⟨rfl, hw6⟩
  obtain rfl := hw6.symm
  go_wp2
  obtain ⟨V, hV, hrV, hbV⟩ : ∃ V, ((W2.drewN n).setCell ⟨w1.heap.size, 1, none⟩ (.int .i64 (place ss ⟨(cutC rs.data.toList).1.toArray⟩))).setCell ⟨w1.heap.size, 2, none⟩ (.int .i64 (logicP (cutC rs.data.toList).2 0)) = V ∧ BoxL V w.heap.size [.int .i64 0, .int .i64 0, .int .i64 0, .int .i64 0, .slice none 0 0] ∧ Below w.heap.size w V := ⟨_, rfl, ((br2.below (below_draws (Below.refl _ _) n)).turn (turn_set _ _ 1 _) (.inl hlt)).turn (turn_set _ _ 2 _) (.inl hlt), ((hB4).setCell (by simp; omega) _).setCell (by simp; omega) _⟩
  rw [hV]
  clear hV
  have b5 := set5 hrV (.int .i64 (3)) (.int .i64 (place ss ⟨(cutC rs.data.toList).1.toArray⟩)) (.int .i64 (logicP (cutC rs.data.toList).2 0)) (.int .i64 (0)) (.slice none 0 0) rfl
  have hb5 := ((((hbV.setCell (p := ⟨w.heap.size, 0, none⟩) (Nat.le_refl _) (.int .i64 (3))).setCell (p := ⟨w.heap.size, 1, none⟩) (Nat.le_refl _) (.int .i64 (place ss ⟨(cutC rs.data.toList).1.toArray⟩))).setCell (p := ⟨w.heap.size, 2, none⟩) (Nat.le_refl _) (.int .i64 (logicP (cutC rs.data.toList).2 0))).setCell (p := ⟨w.heap.size, 3, none⟩) (Nat.le_refl _) (.int .i64 (0))).setCell (p := ⟨w.heap.size, 4, none⟩) (Nat.le_refl _) (.slice none 0 0)
  have s0 := b5.c 0 _ rfl
  have s1 := b5.c 1 _ rfl
  have s2 := b5.c 2 _ rfl
  have s3 := b5.c 3 _ rfl
  have s4 := b5.c 4 _ rfl
  exact bodyPost_ret (v := leafC (3) (place ss ⟨(cutC rs.data.toList).1.toArray⟩) (logicP (cutC rs.data.toList).2 0) (0)) (by simp [results, Tryz.results120, go_sem, s0, s1, s2, s3, s4]) rfl ⟨rfl, hb5⟩
set_option maxRecDepth 100000 in
set_option maxHeartbeats 1600000 in
theorem implGuessNode_4 (ss : List ByteArray) (va : Option Addr) (vca : Nat) (s wd rs : ByteArray) (w : World) (hs : s.size ≤ 1048576) (hlen : ss.length ≤ maxLen) (hcw : (⟨(cutW s.data.toList).1.toArray⟩ : ByteArray) = wd ∧ (⟨(cutW s.data.toList).2.toArray⟩ : ByteArray) = rs) (hrs : rs.size ≤ 1048576) (hkd : place formWords wd = 4) (hW : GuessW ss va w) :
    Calls Tryz.prog 120 #[.slice va ss.length vca, .string s] w (GaveX (leafC 4 (0) (logicP rs.data.toList 0) (0)) w) := by
  have HW := Lib.hid (fun (W : World) (h : Below w.heap.size w W) => hW.keeps h)
  have hC := implCutWord s
  rw [hcw.1, hcw.2] at hC
  have HC := Lib.hid hC
  have HK := Lib.hid hkd
  clear hC hcw hkd hW
  have ta0 := ta_var
  have ta1 := ta_reach
  have ta2 := ta_shared
  have ta3 := ta_next
  have ta4 := ta_same
  have ta5 := ta_path
  have ta6 := ta_some
  have ta7 := ta_all
  go_enter Tryz.func120, Tryz.ntmps120
  go_wp2_with fail
  obtain ⟨W0, hW0, hb0, br0⟩ := one_boxL5 w [.int .i64 0, .int .i64 0, .int .i64 0, .int .i64 0, .slice none 0 0] 27
  simp only [List.toArray] at hW0
  rw [hW0]
  clear hW0
  refine (HC.out W0 hs).mono ?_
  rintro e w1 ⟨rfl, hb1⟩
  have hB1 := hb0.trans (hb1.mono hb0.size)
  have br1 := br0.below hb1
  go_wp2_with fail
  refine (implKindOfWord wd _ (HW.out _ hB1).words).mono ?_
  rw [HK.out]
  rintro e w2 ⟨rfl, rfl⟩
  go_wp2_with fail
  obtain ⟨W2, hW2, hb2, bf2⟩ := one_boxL5 w1 [.int .i64 (4), .int .i64 0, .int .i64 0, .int .i64 0, .slice none 0 0] 27
  simp only [List.toArray] at hW2
  rw [hW2]
  clear hW2
  have br2 := br1.below hb2
  have hB2 := hB1.trans (hb2.mono hB1.size)
  have hlt := br1.lt
  clear br0 br1 hb0 hb1 hb2
  refine (implFormOf 4 _).mono ?_
  rintro e w3 ⟨rfl, hw3⟩
  obtain rfl := hw3.symm
  have hl0 : ∀ V, Calls Tryz.prog 135 #[.string rs, .int .i64 0] V fun e w' => e = .returned (.int .i64 (logicP rs.data.toList 0)) ∧ w' = V := fun V => implLogicAt rs 0 V
  have HL0 := Lib.hid hl0
  clear hl0
  simp only [formV, formT_4]
  have f0 := bf2.c 0 _ rfl
  have f1 := bf2.c 1 _ rfl
  have f2 := bf2.c 2 _ rfl
  have f3 := bf2.c 3 _ rfl
  have f4 := bf2.c 4 _ rfl
  have ff := bf2.f
  have r0 := br2.c 0 _ rfl
  have r1 := br2.c 1 _ rfl
  have r2 := br2.c 2 _ rfl
  have r3 := br2.c 3 _ rfl
  have r4 := br2.c 4 _ rfl
  have rf := br2.f
  go_wp2_with fail
  refine (HL0.out _).mono ?_
  rintro e w6 ⟨rfl, hw6⟩
  obtain rfl := hw6.symm
  go_wp2
  obtain ⟨V, hV, hrV, hbV⟩ : ∃ V, (W2).setCell ⟨w1.heap.size, 2, none⟩ (.int .i64 (logicP rs.data.toList 0)) = V ∧ BoxL V w.heap.size [.int .i64 0, .int .i64 0, .int .i64 0, .int .i64 0, .slice none 0 0] ∧ Below w.heap.size w V := ⟨_, rfl, (br2).turn (turn_set _ _ 2 _) (.inl hlt), (hB2).setCell (by simp; omega) _⟩
  rw [hV]
  clear hV
  have b5 := set5 hrV (.int .i64 (4)) (.int .i64 (0)) (.int .i64 (logicP rs.data.toList 0)) (.int .i64 (0)) (.slice none 0 0) rfl
  have hb5 := ((((hbV.setCell (p := ⟨w.heap.size, 0, none⟩) (Nat.le_refl _) (.int .i64 (4))).setCell (p := ⟨w.heap.size, 1, none⟩) (Nat.le_refl _) (.int .i64 (0))).setCell (p := ⟨w.heap.size, 2, none⟩) (Nat.le_refl _) (.int .i64 (logicP rs.data.toList 0))).setCell (p := ⟨w.heap.size, 3, none⟩) (Nat.le_refl _) (.int .i64 (0))).setCell (p := ⟨w.heap.size, 4, none⟩) (Nat.le_refl _) (.slice none 0 0)
  have s0 := b5.c 0 _ rfl
  have s1 := b5.c 1 _ rfl
  have s2 := b5.c 2 _ rfl
  have s3 := b5.c 3 _ rfl
  have s4 := b5.c 4 _ rfl
  exact bodyPost_ret (v := leafC (4) (0) (logicP rs.data.toList 0) (0)) (by simp [results, Tryz.results120, go_sem, s0, s1, s2, s3, s4]) rfl ⟨rfl, hb5⟩
set_option maxRecDepth 100000 in
set_option maxHeartbeats 1600000 in
theorem implGuessNode_11 (ss : List ByteArray) (va : Option Addr) (vca : Nat) (s wd rs : ByteArray) (w : World) (hs : s.size ≤ 1048576) (hlen : ss.length ≤ maxLen) (hcw : (⟨(cutW s.data.toList).1.toArray⟩ : ByteArray) = wd ∧ (⟨(cutW s.data.toList).2.toArray⟩ : ByteArray) = rs) (hrs : rs.size ≤ 1048576) (hkd : place formWords wd = 11) (hW : GuessW ss va w) :
    Calls Tryz.prog 120 #[.slice va ss.length vca, .string s] w (GaveX (leafC 11 (0) (logicP rs.data.toList 0) (0)) w) := by
  have HW := Lib.hid (fun (W : World) (h : Below w.heap.size w W) => hW.keeps h)
  have hC := implCutWord s
  rw [hcw.1, hcw.2] at hC
  have HC := Lib.hid hC
  have HK := Lib.hid hkd
  clear hC hcw hkd hW
  have ta0 := ta_var
  have ta1 := ta_reach
  have ta2 := ta_shared
  have ta3 := ta_next
  have ta4 := ta_same
  have ta5 := ta_path
  have ta6 := ta_some
  have ta7 := ta_all
  go_enter Tryz.func120, Tryz.ntmps120
  go_wp2_with fail
  obtain ⟨W0, hW0, hb0, br0⟩ := one_boxL5 w [.int .i64 0, .int .i64 0, .int .i64 0, .int .i64 0, .slice none 0 0] 27
  simp only [List.toArray] at hW0
  rw [hW0]
  clear hW0
  refine (HC.out W0 hs).mono ?_
  rintro e w1 ⟨rfl, hb1⟩
  have hB1 := hb0.trans (hb1.mono hb0.size)
  have br1 := br0.below hb1
  go_wp2_with fail
  refine (implKindOfWord wd _ (HW.out _ hB1).words).mono ?_
  rw [HK.out]
  rintro e w2 ⟨rfl, rfl⟩
  go_wp2_with fail
  obtain ⟨W2, hW2, hb2, bf2⟩ := one_boxL5 w1 [.int .i64 (11), .int .i64 0, .int .i64 0, .int .i64 0, .slice none 0 0] 27
  simp only [List.toArray] at hW2
  rw [hW2]
  clear hW2
  have br2 := br1.below hb2
  have hB2 := hB1.trans (hb2.mono hB1.size)
  have hlt := br1.lt
  clear br0 br1 hb0 hb1 hb2
  refine (implFormOf 11 _).mono ?_
  rintro e w3 ⟨rfl, hw3⟩
  obtain rfl := hw3.symm
  have hl0 : ∀ V, Calls Tryz.prog 135 #[.string rs, .int .i64 0] V fun e w' => e = .returned (.int .i64 (logicP rs.data.toList 0)) ∧ w' = V := fun V => implLogicAt rs 0 V
  have HL0 := Lib.hid hl0
  clear hl0
  simp only [formV, formT_11]
  have f0 := bf2.c 0 _ rfl
  have f1 := bf2.c 1 _ rfl
  have f2 := bf2.c 2 _ rfl
  have f3 := bf2.c 3 _ rfl
  have f4 := bf2.c 4 _ rfl
  have ff := bf2.f
  have r0 := br2.c 0 _ rfl
  have r1 := br2.c 1 _ rfl
  have r2 := br2.c 2 _ rfl
  have r3 := br2.c 3 _ rfl
  have r4 := br2.c 4 _ rfl
  have rf := br2.f
  go_wp2_with fail
  refine (HL0.out _).mono ?_
  rintro e w6 ⟨rfl, hw6⟩
  obtain rfl := hw6.symm
  go_wp2
  obtain ⟨V, hV, hrV, hbV⟩ : ∃ V, (W2).setCell ⟨w1.heap.size, 2, none⟩ (.int .i64 (logicP rs.data.toList 0)) = V ∧ BoxL V w.heap.size [.int .i64 0, .int .i64 0, .int .i64 0, .int .i64 0, .slice none 0 0] ∧ Below w.heap.size w V := ⟨_, rfl, (br2).turn (turn_set _ _ 2 _) (.inl hlt), (hB2).setCell (by simp; omega) _⟩
  rw [hV]
  clear hV
  have b5 := set5 hrV (.int .i64 (11)) (.int .i64 (0)) (.int .i64 (logicP rs.data.toList 0)) (.int .i64 (0)) (.slice none 0 0) rfl
  have hb5 := ((((hbV.setCell (p := ⟨w.heap.size, 0, none⟩) (Nat.le_refl _) (.int .i64 (11))).setCell (p := ⟨w.heap.size, 1, none⟩) (Nat.le_refl _) (.int .i64 (0))).setCell (p := ⟨w.heap.size, 2, none⟩) (Nat.le_refl _) (.int .i64 (logicP rs.data.toList 0))).setCell (p := ⟨w.heap.size, 3, none⟩) (Nat.le_refl _) (.int .i64 (0))).setCell (p := ⟨w.heap.size, 4, none⟩) (Nat.le_refl _) (.slice none 0 0)
  have s0 := b5.c 0 _ rfl
  have s1 := b5.c 1 _ rfl
  have s2 := b5.c 2 _ rfl
  have s3 := b5.c 3 _ rfl
  have s4 := b5.c 4 _ rfl
  exact bodyPost_ret (v := leafC (11) (0) (logicP rs.data.toList 0) (0)) (by simp [results, Tryz.results120, go_sem, s0, s1, s2, s3, s4]) rfl ⟨rfl, hb5⟩
set_option maxRecDepth 100000 in
set_option maxHeartbeats 1600000 in
theorem implGuessNode_12 (ss : List ByteArray) (va : Option Addr) (vca : Nat) (s wd rs : ByteArray) (w : World) (hs : s.size ≤ 1048576) (hlen : ss.length ≤ maxLen) (hcw : (⟨(cutW s.data.toList).1.toArray⟩ : ByteArray) = wd ∧ (⟨(cutW s.data.toList).2.toArray⟩ : ByteArray) = rs) (hrs : rs.size ≤ 1048576) (hkd : place formWords wd = 12) (hW : GuessW ss va w) :
    Calls Tryz.prog 120 #[.slice va ss.length vca, .string s] w (GaveX (leafC 12 (0) (logicP rs.data.toList 0) (0)) w) := by
  have HW := Lib.hid (fun (W : World) (h : Below w.heap.size w W) => hW.keeps h)
  have hC := implCutWord s
  rw [hcw.1, hcw.2] at hC
  have HC := Lib.hid hC
  have HK := Lib.hid hkd
  clear hC hcw hkd hW
  have ta0 := ta_var
  have ta1 := ta_reach
  have ta2 := ta_shared
  have ta3 := ta_next
  have ta4 := ta_same
  have ta5 := ta_path
  have ta6 := ta_some
  have ta7 := ta_all
  go_enter Tryz.func120, Tryz.ntmps120
  go_wp2_with fail
  obtain ⟨W0, hW0, hb0, br0⟩ := one_boxL5 w [.int .i64 0, .int .i64 0, .int .i64 0, .int .i64 0, .slice none 0 0] 27
  simp only [List.toArray] at hW0
  rw [hW0]
  clear hW0
  refine (HC.out W0 hs).mono ?_
  rintro e w1 ⟨rfl, hb1⟩
  have hB1 := hb0.trans (hb1.mono hb0.size)
  have br1 := br0.below hb1
  go_wp2_with fail
  refine (implKindOfWord wd _ (HW.out _ hB1).words).mono ?_
  rw [HK.out]
  rintro e w2 ⟨rfl, rfl⟩
  go_wp2_with fail
  obtain ⟨W2, hW2, hb2, bf2⟩ := one_boxL5 w1 [.int .i64 (12), .int .i64 0, .int .i64 0, .int .i64 0, .slice none 0 0] 27
  simp only [List.toArray] at hW2
  rw [hW2]
  clear hW2
  have br2 := br1.below hb2
  have hB2 := hB1.trans (hb2.mono hB1.size)
  have hlt := br1.lt
  clear br0 br1 hb0 hb1 hb2
  refine (implFormOf 12 _).mono ?_
  rintro e w3 ⟨rfl, hw3⟩
  obtain rfl := hw3.symm
  have hl0 : ∀ V, Calls Tryz.prog 135 #[.string rs, .int .i64 0] V fun e w' => e = .returned (.int .i64 (logicP rs.data.toList 0)) ∧ w' = V := fun V => implLogicAt rs 0 V
  have HL0 := Lib.hid hl0
  clear hl0
  simp only [formV, formT_12]
  have f0 := bf2.c 0 _ rfl
  have f1 := bf2.c 1 _ rfl
  have f2 := bf2.c 2 _ rfl
  have f3 := bf2.c 3 _ rfl
  have f4 := bf2.c 4 _ rfl
  have ff := bf2.f
  have r0 := br2.c 0 _ rfl
  have r1 := br2.c 1 _ rfl
  have r2 := br2.c 2 _ rfl
  have r3 := br2.c 3 _ rfl
  have r4 := br2.c 4 _ rfl
  have rf := br2.f
  go_wp2_with fail
  refine (HL0.out _).mono ?_
  rintro e w6 ⟨rfl, hw6⟩
  obtain rfl := hw6.symm
  go_wp2
  obtain ⟨V, hV, hrV, hbV⟩ : ∃ V, (W2).setCell ⟨w1.heap.size, 2, none⟩ (.int .i64 (logicP rs.data.toList 0)) = V ∧ BoxL V w.heap.size [.int .i64 0, .int .i64 0, .int .i64 0, .int .i64 0, .slice none 0 0] ∧ Below w.heap.size w V := ⟨_, rfl, (br2).turn (turn_set _ _ 2 _) (.inl hlt), (hB2).setCell (by simp; omega) _⟩
  rw [hV]
  clear hV
  have b5 := set5 hrV (.int .i64 (12)) (.int .i64 (0)) (.int .i64 (logicP rs.data.toList 0)) (.int .i64 (0)) (.slice none 0 0) rfl
  have hb5 := ((((hbV.setCell (p := ⟨w.heap.size, 0, none⟩) (Nat.le_refl _) (.int .i64 (12))).setCell (p := ⟨w.heap.size, 1, none⟩) (Nat.le_refl _) (.int .i64 (0))).setCell (p := ⟨w.heap.size, 2, none⟩) (Nat.le_refl _) (.int .i64 (logicP rs.data.toList 0))).setCell (p := ⟨w.heap.size, 3, none⟩) (Nat.le_refl _) (.int .i64 (0))).setCell (p := ⟨w.heap.size, 4, none⟩) (Nat.le_refl _) (.slice none 0 0)
  have s0 := b5.c 0 _ rfl
  have s1 := b5.c 1 _ rfl
  have s2 := b5.c 2 _ rfl
  have s3 := b5.c 3 _ rfl
  have s4 := b5.c 4 _ rfl
  exact bodyPost_ret (v := leafC (12) (0) (logicP rs.data.toList 0) (0)) (by simp [results, Tryz.results120, go_sem, s0, s1, s2, s3, s4]) rfl ⟨rfl, hb5⟩
set_option maxRecDepth 100000 in
set_option maxHeartbeats 1600000 in
theorem implGuessNode_5 (ss : List ByteArray) (va : Option Addr) (vca : Nat) (s wd rs : ByteArray) (w : World) (hs : s.size ≤ 1048576) (hlen : ss.length ≤ maxLen) (hcw : (⟨(cutW s.data.toList).1.toArray⟩ : ByteArray) = wd ∧ (⟨(cutW s.data.toList).2.toArray⟩ : ByteArray) = rs) (hrs : rs.size ≤ 1048576) (hkd : place formWords wd = 5) (hW : GuessW ss va w) :
    Calls Tryz.prog 120 #[.slice va ss.length vca, .string s] w (GaveX (leafC 5 (0) (logicP rs.data.toList 0) (logicP rs.data.toList 1)) w) := by
  have HW := Lib.hid (fun (W : World) (h : Below w.heap.size w W) => hW.keeps h)
  have hC := implCutWord s
  rw [hcw.1, hcw.2] at hC
  have HC := Lib.hid hC
  have HK := Lib.hid hkd
  clear hC hcw hkd hW
  have ta0 := ta_var
  have ta1 := ta_reach
  have ta2 := ta_shared
  have ta3 := ta_next
  have ta4 := ta_same
  have ta5 := ta_path
  have ta6 := ta_some
  have ta7 := ta_all
  go_enter Tryz.func120, Tryz.ntmps120
  go_wp2_with fail
  obtain ⟨W0, hW0, hb0, br0⟩ := one_boxL5 w [.int .i64 0, .int .i64 0, .int .i64 0, .int .i64 0, .slice none 0 0] 27
  simp only [List.toArray] at hW0
  rw [hW0]
  clear hW0
  refine (HC.out W0 hs).mono ?_
  rintro e w1 ⟨rfl, hb1⟩
  have hB1 := hb0.trans (hb1.mono hb0.size)
  have br1 := br0.below hb1
  go_wp2_with fail
  refine (implKindOfWord wd _ (HW.out _ hB1).words).mono ?_
  rw [HK.out]
  rintro e w2 ⟨rfl, rfl⟩
  go_wp2_with fail
  obtain ⟨W2, hW2, hb2, bf2⟩ := one_boxL5 w1 [.int .i64 (5), .int .i64 0, .int .i64 0, .int .i64 0, .slice none 0 0] 27
  simp only [List.toArray] at hW2
  rw [hW2]
  clear hW2
  have br2 := br1.below hb2
  have hB2 := hB1.trans (hb2.mono hB1.size)
  have hlt := br1.lt
  clear br0 br1 hb0 hb1 hb2
  refine (implFormOf 5 _).mono ?_
  rintro e w3 ⟨rfl, hw3⟩
  obtain rfl := hw3.symm
  have hl0 : ∀ V, Calls Tryz.prog 135 #[.string rs, .int .i64 0] V fun e w' => e = .returned (.int .i64 (logicP rs.data.toList 0)) ∧ w' = V := fun V => implLogicAt rs 0 V
  have HL0 := Lib.hid hl0
  clear hl0
  have hl1 : ∀ V, Calls Tryz.prog 135 #[.string rs, .int .i64 1] V fun e w' => e = .returned (.int .i64 (logicP rs.data.toList 1)) ∧ w' = V := fun V => implLogicAt rs 1 V
  have HL1 := Lib.hid hl1
  clear hl1
  simp only [formV, formT_5]
  have f0 := bf2.c 0 _ rfl
  have f1 := bf2.c 1 _ rfl
  have f2 := bf2.c 2 _ rfl
  have f3 := bf2.c 3 _ rfl
  have f4 := bf2.c 4 _ rfl
  have ff := bf2.f
  have r0 := br2.c 0 _ rfl
  have r1 := br2.c 1 _ rfl
  have r2 := br2.c 2 _ rfl
  have r3 := br2.c 3 _ rfl
  have r4 := br2.c 4 _ rfl
  have rf := br2.f
  go_wp2_with fail
  refine (HL0.out _).mono ?_
  rintro e w6 ⟨rfl, hw6⟩
  obtain rfl := hw6.symm
  go_wp2_with fail
  refine (HL1.out _).mono ?_
  rintro e w6 ⟨rfl, hw6⟩
  obtain rfl := hw6.symm
  go_wp2
  obtain ⟨V, hV, hrV, hbV⟩ : ∃ V, ((W2).setCell ⟨w1.heap.size, 2, none⟩ (.int .i64 (logicP rs.data.toList 0))).setCell ⟨w1.heap.size, 3, none⟩ (.int .i64 (logicP rs.data.toList 1)) = V ∧ BoxL V w.heap.size [.int .i64 0, .int .i64 0, .int .i64 0, .int .i64 0, .slice none 0 0] ∧ Below w.heap.size w V := ⟨_, rfl, ((br2).turn (turn_set _ _ 2 _) (.inl hlt)).turn (turn_set _ _ 3 _) (.inl hlt), ((hB2).setCell (by simp; omega) _).setCell (by simp; omega) _⟩
  rw [hV]
  clear hV
  have b5 := set5 hrV (.int .i64 (5)) (.int .i64 (0)) (.int .i64 (logicP rs.data.toList 0)) (.int .i64 (logicP rs.data.toList 1)) (.slice none 0 0) rfl
  have hb5 := ((((hbV.setCell (p := ⟨w.heap.size, 0, none⟩) (Nat.le_refl _) (.int .i64 (5))).setCell (p := ⟨w.heap.size, 1, none⟩) (Nat.le_refl _) (.int .i64 (0))).setCell (p := ⟨w.heap.size, 2, none⟩) (Nat.le_refl _) (.int .i64 (logicP rs.data.toList 0))).setCell (p := ⟨w.heap.size, 3, none⟩) (Nat.le_refl _) (.int .i64 (logicP rs.data.toList 1))).setCell (p := ⟨w.heap.size, 4, none⟩) (Nat.le_refl _) (.slice none 0 0)
  have s0 := b5.c 0 _ rfl
  have s1 := b5.c 1 _ rfl
  have s2 := b5.c 2 _ rfl
  have s3 := b5.c 3 _ rfl
  have s4 := b5.c 4 _ rfl
  exact bodyPost_ret (v := leafC (5) (0) (logicP rs.data.toList 0) (logicP rs.data.toList 1)) (by simp [results, Tryz.results120, go_sem, s0, s1, s2, s3, s4]) rfl ⟨rfl, hb5⟩
set_option maxRecDepth 100000 in
set_option maxHeartbeats 1600000 in
theorem implGuessNode_6 (ss : List ByteArray) (va : Option Addr) (vca : Nat) (s wd rs : ByteArray) (w : World) (hs : s.size ≤ 1048576) (hlen : ss.length ≤ maxLen) (hcw : (⟨(cutW s.data.toList).1.toArray⟩ : ByteArray) = wd ∧ (⟨(cutW s.data.toList).2.toArray⟩ : ByteArray) = rs) (hrs : rs.size ≤ 1048576) (hkd : place formWords wd = 6) (hW : GuessW ss va w) :
    Calls Tryz.prog 120 #[.slice va ss.length vca, .string s] w (GaveX (leafC 6 (0) (logicP rs.data.toList 0) (logicP rs.data.toList 1)) w) := by
  have HW := Lib.hid (fun (W : World) (h : Below w.heap.size w W) => hW.keeps h)
  have hC := implCutWord s
  rw [hcw.1, hcw.2] at hC
  have HC := Lib.hid hC
  have HK := Lib.hid hkd
  clear hC hcw hkd hW
  have ta0 := ta_var
  have ta1 := ta_reach
  have ta2 := ta_shared
  have ta3 := ta_next
  have ta4 := ta_same
  have ta5 := ta_path
  have ta6 := ta_some
  have ta7 := ta_all
  go_enter Tryz.func120, Tryz.ntmps120
  go_wp2_with fail
  obtain ⟨W0, hW0, hb0, br0⟩ := one_boxL5 w [.int .i64 0, .int .i64 0, .int .i64 0, .int .i64 0, .slice none 0 0] 27
  simp only [List.toArray] at hW0
  rw [hW0]
  clear hW0
  refine (HC.out W0 hs).mono ?_
  rintro e w1 ⟨rfl, hb1⟩
  have hB1 := hb0.trans (hb1.mono hb0.size)
  have br1 := br0.below hb1
  go_wp2_with fail
  refine (implKindOfWord wd _ (HW.out _ hB1).words).mono ?_
  rw [HK.out]
  rintro e w2 ⟨rfl, rfl⟩
  go_wp2_with fail
  obtain ⟨W2, hW2, hb2, bf2⟩ := one_boxL5 w1 [.int .i64 (6), .int .i64 0, .int .i64 0, .int .i64 0, .slice none 0 0] 27
  simp only [List.toArray] at hW2
  rw [hW2]
  clear hW2
  have br2 := br1.below hb2
  have hB2 := hB1.trans (hb2.mono hB1.size)
  have hlt := br1.lt
  clear br0 br1 hb0 hb1 hb2
  refine (implFormOf 6 _).mono ?_
  rintro e w3 ⟨rfl, hw3⟩
  obtain rfl := hw3.symm
  have hl0 : ∀ V, Calls Tryz.prog 135 #[.string rs, .int .i64 0] V fun e w' => e = .returned (.int .i64 (logicP rs.data.toList 0)) ∧ w' = V := fun V => implLogicAt rs 0 V
  have HL0 := Lib.hid hl0
  clear hl0
  have hl1 : ∀ V, Calls Tryz.prog 135 #[.string rs, .int .i64 1] V fun e w' => e = .returned (.int .i64 (logicP rs.data.toList 1)) ∧ w' = V := fun V => implLogicAt rs 1 V
  have HL1 := Lib.hid hl1
  clear hl1
  simp only [formV, formT_6]
  have f0 := bf2.c 0 _ rfl
  have f1 := bf2.c 1 _ rfl
  have f2 := bf2.c 2 _ rfl
  have f3 := bf2.c 3 _ rfl
  have f4 := bf2.c 4 _ rfl
  have ff := bf2.f
  have r0 := br2.c 0 _ rfl
  have r1 := br2.c 1 _ rfl
  have r2 := br2.c 2 _ rfl
  have r3 := br2.c 3 _ rfl
  have r4 := br2.c 4 _ rfl
  have rf := br2.f
  go_wp2_with fail
  refine (HL0.out _).mono ?_
  rintro e w6 ⟨rfl, hw6⟩
  obtain rfl := hw6.symm
  go_wp2_with fail
  refine (HL1.out _).mono ?_
  rintro e w6 ⟨rfl, hw6⟩
  obtain rfl := hw6.symm
  go_wp2
  obtain ⟨V, hV, hrV, hbV⟩ : ∃ V, ((W2).setCell ⟨w1.heap.size, 2, none⟩ (.int .i64 (logicP rs.data.toList 0))).setCell ⟨w1.heap.size, 3, none⟩ (.int .i64 (logicP rs.data.toList 1)) = V ∧ BoxL V w.heap.size [.int .i64 0, .int .i64 0, .int .i64 0, .int .i64 0, .slice none 0 0] ∧ Below w.heap.size w V := ⟨_, rfl, ((br2).turn (turn_set _ _ 2 _) (.inl hlt)).turn (turn_set _ _ 3 _) (.inl hlt), ((hB2).setCell (by simp; omega) _).setCell (by simp; omega) _⟩
  rw [hV]
  clear hV
  have b5 := set5 hrV (.int .i64 (6)) (.int .i64 (0)) (.int .i64 (logicP rs.data.toList 0)) (.int .i64 (logicP rs.data.toList 1)) (.slice none 0 0) rfl
  have hb5 := ((((hbV.setCell (p := ⟨w.heap.size, 0, none⟩) (Nat.le_refl _) (.int .i64 (6))).setCell (p := ⟨w.heap.size, 1, none⟩) (Nat.le_refl _) (.int .i64 (0))).setCell (p := ⟨w.heap.size, 2, none⟩) (Nat.le_refl _) (.int .i64 (logicP rs.data.toList 0))).setCell (p := ⟨w.heap.size, 3, none⟩) (Nat.le_refl _) (.int .i64 (logicP rs.data.toList 1))).setCell (p := ⟨w.heap.size, 4, none⟩) (Nat.le_refl _) (.slice none 0 0)
  have s0 := b5.c 0 _ rfl
  have s1 := b5.c 1 _ rfl
  have s2 := b5.c 2 _ rfl
  have s3 := b5.c 3 _ rfl
  have s4 := b5.c 4 _ rfl
  exact bodyPost_ret (v := leafC (6) (0) (logicP rs.data.toList 0) (logicP rs.data.toList 1)) (by simp [results, Tryz.results120, go_sem, s0, s1, s2, s3, s4]) rfl ⟨rfl, hb5⟩
set_option maxRecDepth 100000 in
set_option maxHeartbeats 1600000 in
theorem implGuessNode_7 (ss : List ByteArray) (va : Option Addr) (vca : Nat) (s wd rs : ByteArray) (w : World) (hs : s.size ≤ 1048576) (hlen : ss.length ≤ maxLen) (hcw : (⟨(cutW s.data.toList).1.toArray⟩ : ByteArray) = wd ∧ (⟨(cutW s.data.toList).2.toArray⟩ : ByteArray) = rs) (hrs : rs.size ≤ 1048576) (hkd : place formWords wd = 7) (hW : GuessW ss va w) :
    Calls Tryz.prog 120 #[.slice va ss.length vca, .string s] w (GaveX (leafC 7 (0) (logicP rs.data.toList 0) (logicP rs.data.toList 1)) w) := by
  have HW := Lib.hid (fun (W : World) (h : Below w.heap.size w W) => hW.keeps h)
  have hC := implCutWord s
  rw [hcw.1, hcw.2] at hC
  have HC := Lib.hid hC
  have HK := Lib.hid hkd
  clear hC hcw hkd hW
  have ta0 := ta_var
  have ta1 := ta_reach
  have ta2 := ta_shared
  have ta3 := ta_next
  have ta4 := ta_same
  have ta5 := ta_path
  have ta6 := ta_some
  have ta7 := ta_all
  go_enter Tryz.func120, Tryz.ntmps120
  go_wp2_with fail
  obtain ⟨W0, hW0, hb0, br0⟩ := one_boxL5 w [.int .i64 0, .int .i64 0, .int .i64 0, .int .i64 0, .slice none 0 0] 27
  simp only [List.toArray] at hW0
  rw [hW0]
  clear hW0
  refine (HC.out W0 hs).mono ?_
  rintro e w1 ⟨rfl, hb1⟩
  have hB1 := hb0.trans (hb1.mono hb0.size)
  have br1 := br0.below hb1
  go_wp2_with fail
  refine (implKindOfWord wd _ (HW.out _ hB1).words).mono ?_
  rw [HK.out]
  rintro e w2 ⟨rfl, rfl⟩
  go_wp2_with fail
  obtain ⟨W2, hW2, hb2, bf2⟩ := one_boxL5 w1 [.int .i64 (7), .int .i64 0, .int .i64 0, .int .i64 0, .slice none 0 0] 27
  simp only [List.toArray] at hW2
  rw [hW2]
  clear hW2
  have br2 := br1.below hb2
  have hB2 := hB1.trans (hb2.mono hB1.size)
  have hlt := br1.lt
  clear br0 br1 hb0 hb1 hb2
  refine (implFormOf 7 _).mono ?_
  rintro e w3 ⟨rfl, hw3⟩
  obtain rfl := hw3.symm
  have hl0 : ∀ V, Calls Tryz.prog 135 #[.string rs, .int .i64 0] V fun e w' => e = .returned (.int .i64 (logicP rs.data.toList 0)) ∧ w' = V := fun V => implLogicAt rs 0 V
  have HL0 := Lib.hid hl0
  clear hl0
  have hl1 : ∀ V, Calls Tryz.prog 135 #[.string rs, .int .i64 1] V fun e w' => e = .returned (.int .i64 (logicP rs.data.toList 1)) ∧ w' = V := fun V => implLogicAt rs 1 V
  have HL1 := Lib.hid hl1
  clear hl1
  simp only [formV, formT_7]
  have f0 := bf2.c 0 _ rfl
  have f1 := bf2.c 1 _ rfl
  have f2 := bf2.c 2 _ rfl
  have f3 := bf2.c 3 _ rfl
  have f4 := bf2.c 4 _ rfl
  have ff := bf2.f
  have r0 := br2.c 0 _ rfl
  have r1 := br2.c 1 _ rfl
  have r2 := br2.c 2 _ rfl
  have r3 := br2.c 3 _ rfl
  have r4 := br2.c 4 _ rfl
  have rf := br2.f
  go_wp2_with fail
  refine (HL0.out _).mono ?_
  rintro e w6 ⟨rfl, hw6⟩
  obtain rfl := hw6.symm
  go_wp2_with fail
  refine (HL1.out _).mono ?_
  rintro e w6 ⟨rfl, hw6⟩
  obtain rfl := hw6.symm
  go_wp2
  obtain ⟨V, hV, hrV, hbV⟩ : ∃ V, ((W2).setCell ⟨w1.heap.size, 2, none⟩ (.int .i64 (logicP rs.data.toList 0))).setCell ⟨w1.heap.size, 3, none⟩ (.int .i64 (logicP rs.data.toList 1)) = V ∧ BoxL V w.heap.size [.int .i64 0, .int .i64 0, .int .i64 0, .int .i64 0, .slice none 0 0] ∧ Below w.heap.size w V := ⟨_, rfl, ((br2).turn (turn_set _ _ 2 _) (.inl hlt)).turn (turn_set _ _ 3 _) (.inl hlt), ((hB2).setCell (by simp; omega) _).setCell (by simp; omega) _⟩
  rw [hV]
  clear hV
  have b5 := set5 hrV (.int .i64 (7)) (.int .i64 (0)) (.int .i64 (logicP rs.data.toList 0)) (.int .i64 (logicP rs.data.toList 1)) (.slice none 0 0) rfl
  have hb5 := ((((hbV.setCell (p := ⟨w.heap.size, 0, none⟩) (Nat.le_refl _) (.int .i64 (7))).setCell (p := ⟨w.heap.size, 1, none⟩) (Nat.le_refl _) (.int .i64 (0))).setCell (p := ⟨w.heap.size, 2, none⟩) (Nat.le_refl _) (.int .i64 (logicP rs.data.toList 0))).setCell (p := ⟨w.heap.size, 3, none⟩) (Nat.le_refl _) (.int .i64 (logicP rs.data.toList 1))).setCell (p := ⟨w.heap.size, 4, none⟩) (Nat.le_refl _) (.slice none 0 0)
  have s0 := b5.c 0 _ rfl
  have s1 := b5.c 1 _ rfl
  have s2 := b5.c 2 _ rfl
  have s3 := b5.c 3 _ rfl
  have s4 := b5.c 4 _ rfl
  exact bodyPost_ret (v := leafC (7) (0) (logicP rs.data.toList 0) (logicP rs.data.toList 1)) (by simp [results, Tryz.results120, go_sem, s0, s1, s2, s3, s4]) rfl ⟨rfl, hb5⟩
set_option maxRecDepth 100000 in
set_option maxHeartbeats 1600000 in
theorem implGuessNode_no (ss : List ByteArray) (va : Option Addr) (vca : Nat) (s wd rs : ByteArray) (kd : Int) (w : World) (hs : s.size ≤ 1048576) (hlen : ss.length ≤ maxLen) (hcw : (⟨(cutW s.data.toList).1.toArray⟩ : ByteArray) = wd ∧ (⟨(cutW s.data.toList).2.toArray⟩ : ByteArray) = rs) (hrs : rs.size ≤ 1048576) (hkd : place formWords wd = kd) (hkk : ¬ (kd = 2 ∨ kd = 3 ∨ kd = 4 ∨ kd = 5 ∨ kd = 6 ∨ kd = 7 ∨ kd = 11 ∨ kd = 12)) (hW : GuessW ss va w) :
    Calls Tryz.prog 120 #[.slice va ss.length vca, .string s] w (GaveX (leafC kd (0) (0) (0)) w) := by
  have HW := Lib.hid (fun (W : World) (h : Below w.heap.size w W) => hW.keeps h)
  have hC := implCutWord s
  rw [hcw.1, hcw.2] at hC
  have HC := Lib.hid hC
  have HK := Lib.hid hkd
  clear hC hcw hkd hW
  have ta0 := ta_var
  have ta1 := ta_reach
  have ta2 := ta_shared
  have ta3 := ta_next
  have ta4 := ta_same
  have ta5 := ta_path
  have ta6 := ta_some
  have ta7 := ta_all
  go_enter Tryz.func120, Tryz.ntmps120
  go_wp2_with fail
  obtain ⟨W0, hW0, hb0, br0⟩ := one_boxL5 w [.int .i64 0, .int .i64 0, .int .i64 0, .int .i64 0, .slice none 0 0] 27
  simp only [List.toArray] at hW0
  rw [hW0]
  clear hW0
  refine (HC.out W0 hs).mono ?_
  rintro e w1 ⟨rfl, hb1⟩
  have hB1 := hb0.trans (hb1.mono hb0.size)
  have br1 := br0.below hb1
  go_wp2_with fail
  refine (implKindOfWord wd _ (HW.out _ hB1).words).mono ?_
  rw [HK.out]
  rintro e w2 ⟨rfl, rfl⟩
  go_wp2_with fail
  obtain ⟨W2, hW2, hb2, bf2⟩ := one_boxL5 w1 [.int .i64 (kd), .int .i64 0, .int .i64 0, .int .i64 0, .slice none 0 0] 27
  simp only [List.toArray] at hW2
  rw [hW2]
  clear hW2
  have br2 := br1.below hb2
  have hB2 := hB1.trans (hb2.mono hB1.size)
  have hlt := br1.lt
  clear br0 br1 hb0 hb1 hb2
  refine (implFormOf kd _).mono ?_
  rintro e w3 ⟨rfl, hw3⟩
  obtain rfl := hw3.symm
  simp only [formV]
  obtain ⟨t1, t2, t3, t4, t5, t6, t7, t8⟩ := formT_other hkk
  generalize formT kd = T at *
  have f0 := bf2.c 0 _ rfl
  have f1 := bf2.c 1 _ rfl
  have f2 := bf2.c 2 _ rfl
  have f3 := bf2.c 3 _ rfl
  have f4 := bf2.c 4 _ rfl
  have ff := bf2.f
  have r0 := br2.c 0 _ rfl
  have r1 := br2.c 1 _ rfl
  have r2 := br2.c 2 _ rfl
  have r3 := br2.c 3 _ rfl
  have r4 := br2.c 4 _ rfl
  have rf := br2.f
  go_wp2
  obtain ⟨V, hV, hrV, hbV⟩ : ∃ V, W2 = V ∧ BoxL V w.heap.size [.int .i64 0, .int .i64 0, .int .i64 0, .int .i64 0, .slice none 0 0] ∧ Below w.heap.size w V := ⟨_, rfl, br2, hB2⟩
  rw [hV]
  clear hV
  have b5 := set5 hrV (.int .i64 (kd)) (.int .i64 (0)) (.int .i64 (0)) (.int .i64 (0)) (.slice none 0 0) rfl
  have hb5 := ((((hbV.setCell (p := ⟨w.heap.size, 0, none⟩) (Nat.le_refl _) (.int .i64 (kd))).setCell (p := ⟨w.heap.size, 1, none⟩) (Nat.le_refl _) (.int .i64 (0))).setCell (p := ⟨w.heap.size, 2, none⟩) (Nat.le_refl _) (.int .i64 (0))).setCell (p := ⟨w.heap.size, 3, none⟩) (Nat.le_refl _) (.int .i64 (0))).setCell (p := ⟨w.heap.size, 4, none⟩) (Nat.le_refl _) (.slice none 0 0)
  have s0 := b5.c 0 _ rfl
  have s1 := b5.c 1 _ rfl
  have s2 := b5.c 2 _ rfl
  have s3 := b5.c 3 _ rfl
  have s4 := b5.c 4 _ rfl
  exact bodyPost_ret (v := leafC (kd) (0) (0) (0)) (by simp [results, Tryz.results120, go_sem, s0, s1, s2, s3, s4]) rfl ⟨rfl, hb5⟩
theorem cut_size (s : ByteArray) : (⟨(cutW s.data.toList).2.toArray⟩ : ByteArray).size ≤ s.size := by
  have h : (⟨(cutW s.data.toList).2.toArray⟩ : ByteArray).size = (cutW s.data.toList).2.length := rfl
  have hl : s.data.toList.length = s.size := by simp
  rw [h]
  rcases cutW_idx s.data.toList with ⟨_, hi⟩ | ⟨e, _, hi, _⟩
  · rw [hi]
    exact Nat.zero_le _
  · rw [hi, List.length_drop]
    omega
/-- The program's guess of a node. -/
theorem implGuessNode (ss : List ByteArray) (va : Option Addr) (vca : Nat) (s : ByteArray) (w : World) (hs : s.size ≤ 1048576) (hlen : ss.length ≤ maxLen) (hW : GuessW ss va w) :
    Calls Tryz.prog 120 #[.slice va ss.length vca, .string s] w (GaveX (leafV (guessN ss s.data.toList)) w) := by
  obtain ⟨wd, hwd⟩ : ∃ wd, (⟨(cutW s.data.toList).1.toArray⟩ : ByteArray) = wd := ⟨_, rfl⟩
  obtain ⟨rs, hrs⟩ : ∃ rs, (⟨(cutW s.data.toList).2.toArray⟩ : ByteArray) = rs := ⟨_, rfl⟩
  have hsz := cut_size s
  rw [hrs] at hsz
  have hrl : (cutW s.data.toList).2 = rs.data.toList := by rw [← hrs]
  obtain ⟨kd, hkd⟩ : ∃ kd, place formWords wd = kd := ⟨_, rfl⟩
  have hg := guessN_of (ss := ss) (l := s.data.toList) (w := (cutW s.data.toList).1) (r := rs.data.toList) (kd := kd) (by rw [← hrl]) (by rw [hwd]; exact hkd)
  rw [hg]
  have hrz : rs.size ≤ 1048576 := by omega
  by_cases h2 : kd = 2
  · subst h2
    exact implGuessNode_2 ss va vca s wd rs w hs hlen ⟨hwd, hrs⟩ hrz hkd hW
  by_cases h3 : kd = 3
  · subst h3
    exact implGuessNode_3 ss va vca s wd rs w hs hlen ⟨hwd, hrs⟩ hrz hkd hW
  by_cases h4 : kd = 4
  · subst h4
    exact implGuessNode_4 ss va vca s wd rs w hs hlen ⟨hwd, hrs⟩ hrz hkd hW
  by_cases h11 : kd = 11
  · subst h11
    exact implGuessNode_11 ss va vca s wd rs w hs hlen ⟨hwd, hrs⟩ hrz hkd hW
  by_cases h12 : kd = 12
  · subst h12
    exact implGuessNode_12 ss va vca s wd rs w hs hlen ⟨hwd, hrs⟩ hrz hkd hW
  by_cases h5 : kd = 5
  · subst h5
    exact implGuessNode_5 ss va vca s wd rs w hs hlen ⟨hwd, hrs⟩ hrz hkd hW
  by_cases h6 : kd = 6
  · subst h6
    exact implGuessNode_6 ss va vca s wd rs w hs hlen ⟨hwd, hrs⟩ hrz hkd hW
  by_cases h7 : kd = 7
  · subst h7
    exact implGuessNode_7 ss va vca s wd rs w hs hlen ⟨hwd, hrs⟩ hrz hkd hW
  rw [if_neg (by omega), if_neg (by omega), if_neg (by omega)]
  exact implGuessNode_no ss va vca s wd rs kd w hs hlen ⟨hwd, hrs⟩ hrz hkd (by omega) hW
end Go.Proofs.YtplchhahjmoodaaGreatDoor
