/-
  The text of a statement: the walks of the program's function and of the model's.
-/
import Derived.Test.YtabedmjaodinbaaGreatDoorStmt
import Derived.Test.YtabedmjaodinbaaGreatDoorImplNames
import Derived.Test.YtabedmjaodinbaaGreatDoorSyntax
namespace Go.Proofs.YtabedmjaodinbaaGreatDoor
open Go Go.RowKit

def canS (s : ByteArray) (used : Bool) : Bool := if used then goodName s else s.toList.isEmpty
theorem canS_list (s : ByteArray) (used : Bool) : canS s used = canL s.data.toList used := by
  cases used
  · simp [canS, canL, ByteArray.toList_eq]
  · simp [canS, canL, goodName_list]
theorem textS_no {k : Int} {a b : ByteArray} (h : ¬ (canS a (decide (1 ≤ namesN k)) = true ∧ canS b (decide (2 ≤ namesN k)) = true)) : textS k a b = ⟨#[]⟩ := by
  rw [canS_list, canS_list] at h
  simp only [textS, textL, okL, Bool.and_eq_true, if_neg h]
theorem textS_yes {k : Int} {a b s : ByteArray} (h1 : canS a (decide (1 ≤ namesN k)) = true) (h2 : canS b (decide (2 ≤ namesN k)) = true) (h : s.data.toList = bodyL k a.data.toList b.data.toList) : s = textS k a b := by
  apply bytes_ext
  rw [textS_data, h, textL, if_pos]
  rw [canS_list] at h1 h2
  simp [okL, h1, h2]
theorem canS_size {s : ByteArray} {u : Bool} (h : canS s u = true) : s.size ≤ 2 := by
  cases u
  · have : s.data.toList = [] := by simpa [canS, ByteArray.toList_eq] using h
    have h2 : s.size = s.data.toList.length := by simp
    rw [h2, this]; simp
  · simp only [canS, if_true, goodName, decide_eq_true_eq] at h
    exact h.2.2

theorem ret_str {x y : ByteArray} (h : x = y) : Ending.returned (.string x) = .returned (.string y) := by rw [h]
theorem implCanStand (s : ByteArray) (used : Bool) (w : World) (hs : s.size ≤ maxLen) : Calls Tryz.prog 61 #[.string s, .bool used] w (GaveB (.bool (canS s used)) w) := by
  cases used with
  | true =>
    go_enter Tryz.func61, Tryz.ntmps61
    go_wp2_with fail
    refine (implIsName s _ hs).mono ?_
    rintro e w1 ⟨rfl, hb1⟩
    go_wp2
    go_ret
    exact ⟨rfl, hb1⟩
  | false =>
    go_enter Tryz.func61, Tryz.ntmps61
    go_wp2
    go_ret
    exact ⟨rfl, Below.refl _ _⟩

set_option maxHeartbeats 3200000 in
theorem implStmtText (k : Int) (a b : ByteArray) (w : World) (ha : a.size ≤ maxLen) (hb : b.size ≤ maxLen) (hT : HasNamesTable w) :
    Calls Tryz.prog 28 #[stV k a b] w (GaveB (.string (textS k a b)) w) := by
  have hT1 : HasNamesTable (w.alloc (.cells #[.int .i64 k, .string a, .string b] 42)) := hT.keeps ((Below.refl _ _).alloc (Nat.le_refl _) _)
  generalize hn : namesN k = n
  have HN := Lib.hid hn
  clear hn
  cases h1 : canS a (decide (1 ≤ n)) with
  | false =>
    rw [textS_no (by rw [HN.out, h1]; simp)]
    have H1 := Lib.hid h1
    clear h1
    go_enter Tryz.func28, Tryz.ntmps28
    go_wp2_with fail
    refine (implNamesOf k _ hT1).mono ?_
    rw [HN.out]
    rintro e w1 ⟨rfl, rfl⟩
    go_wp2_with fail
    refine (implCanStand a _ _ ha).mono ?_
    rw [H1.out]
    rintro e w2 ⟨rfl, hb2⟩
    have hB2 : Below w.heap.size w w2 := ((Below.refl _ _).alloc (Nat.le_refl _) _).trans (hb2.mono (by simp))
    go_wp2
    go_ret
    exact ⟨rfl, hB2⟩
  | true =>
    cases h2 : canS b (decide (2 ≤ n)) with
    | false =>
      rw [textS_no (by rw [HN.out, h2]; simp)]
      have H1 := Lib.hid h1
      have H2 := Lib.hid h2
      clear h1 h2
      go_enter Tryz.func28, Tryz.ntmps28
      go_wp2_with fail
      refine (implNamesOf k _ hT1).mono ?_
      rw [HN.out]
      rintro e w1 ⟨rfl, rfl⟩
      go_wp2_with fail
      refine (implCanStand a _ _ ha).mono ?_
      rw [H1.out]
      rintro e w2 ⟨rfl, hb2⟩
      have hB2 : Below w.heap.size w w2 := ((Below.refl _ _).alloc (Nat.le_refl _) _).trans (hb2.mono (by simp))
      obtain ⟨hc2, _⟩ := bcell hb2
      clear hb2
      go_wp2_with fail
      refine (implCanStand b _ _ hb).mono ?_
      rw [H2.out]
      rintro e w3 ⟨rfl, hb3⟩
      have hB3 := hB2.trans (hb3.mono hB2.size)
      go_wp2
      go_ret
      exact ⟨rfl, hB3⟩
    | true =>
      have z1 := canS_size h1
      have z2 := canS_size h2
      have HT := Lib.hid (show ∀ s : ByteArray, s.data.toList = bodyL k a.data.toList b.data.toList → s = textS k a b from fun s h => textS_yes (by rw [HN.out]; exact h1) (by rw [HN.out]; exact h2) h)
      generalize htt : textS k a b = tt at *
      have H1 := Lib.hid h1
      have H2 := Lib.hid h2
      clear h1 h2 htt
      by_cases hk : 1 ≤ k ∧ k ≤ 12
      · rcases kinds hk with rfl | rfl | rfl | rfl | rfl | rfl | rfl | rfl | rfl | rfl | rfl | rfl
        all_goals
          clear hk
          go_enter Tryz.func28, Tryz.ntmps28
          go_wp2_with fail
          refine (implNamesOf _ _ hT1).mono ?_
          rw [HN.out]
          rintro e w1 ⟨rfl, rfl⟩
          go_wp2_with fail
          refine (implCanStand a _ _ ha).mono ?_
          rw [H1.out]
          rintro e w2 ⟨rfl, hb2⟩
          have hB2 : Below w.heap.size w w2 := ((Below.refl _ _).alloc (Nat.le_refl _) _).trans (hb2.mono (by simp))
          obtain ⟨hc2, _⟩ := bcell hb2
          have hs2 : w.heap.size < w2.heap.size := by have h := hb2.size; simp at h; omega
          clear hb2
          go_wp2_with fail
          refine (implCanStand b _ _ hb).mono ?_
          rw [H2.out]
          rintro e w3 ⟨rfl, hb3⟩
          have hB3 := hB2.trans (hb3.mono hB2.size)
          obtain ⟨hc3, _⟩ := bcell hb3
          clear hb3
          go_wp2
          go_ret
          exact ⟨ret_str (HT.out _ (by simp [bodyL])), hB3⟩
      · have e1 : (k == 1) = false := by simp only [beq_eq_false_iff_ne, ne_eq]; omega
        have e2 : (k == 2) = false := by simp only [beq_eq_false_iff_ne, ne_eq]; omega
        have e3 : (k == 3) = false := by simp only [beq_eq_false_iff_ne, ne_eq]; omega
        have e4 : (k == 4) = false := by simp only [beq_eq_false_iff_ne, ne_eq]; omega
        have e5 : (k == 5) = false := by simp only [beq_eq_false_iff_ne, ne_eq]; omega
        have e6 : (k == 6) = false := by simp only [beq_eq_false_iff_ne, ne_eq]; omega
        have e7 : (k == 7) = false := by simp only [beq_eq_false_iff_ne, ne_eq]; omega
        have e8 : (k == 8) = false := by simp only [beq_eq_false_iff_ne, ne_eq]; omega
        have e9 : (k == 9) = false := by simp only [beq_eq_false_iff_ne, ne_eq]; omega
        have e10 : (k == 10) = false := by simp only [beq_eq_false_iff_ne, ne_eq]; omega
        have e11 : (k == 11) = false := by simp only [beq_eq_false_iff_ne, ne_eq]; omega
        have e12 : (k == 12) = false := by simp only [beq_eq_false_iff_ne, ne_eq]; omega
        have HE := Lib.hid (show tt = ⟨#[]⟩ from (HT.out ⟨#[]⟩ (by unfold bodyL; repeat (rw [if_neg (by omega)]))).symm)
        clear hk
        rw [HE.out]
        go_enter Tryz.func28, Tryz.ntmps28
        go_wp2_with fail
        refine (implNamesOf _ _ hT1).mono ?_
        rw [HN.out]
        rintro e w1 ⟨rfl, rfl⟩
        go_wp2_with fail
        refine (implCanStand a _ _ ha).mono ?_
        rw [H1.out]
        rintro e w2 ⟨rfl, hb2⟩
        have hB2 : Below w.heap.size w w2 := ((Below.refl _ _).alloc (Nat.le_refl _) _).trans (hb2.mono (by simp))
        obtain ⟨hc2, _⟩ := bcell hb2
        have hs2 : w.heap.size < w2.heap.size := by have h := hb2.size; simp at h; omega
        clear hb2
        go_wp2_with fail
        refine (implCanStand b _ _ hb).mono ?_
        rw [H2.out]
        rintro e w3 ⟨rfl, hb3⟩
        have hB3 := hB2.trans (hb3.mono hB2.size)
        obtain ⟨hc3, _⟩ := bcell hb3
        clear hb3
        go_wp2
        go_ret
        exact ⟨rfl, hB3⟩

theorem kinds0 {k : Int} (h : namesN k = 0) : k = 1 := by
  by_cases hk : 1 ≤ k ∧ k ≤ 12
  · rcases kinds hk with rfl | rfl | rfl | rfl | rfl | rfl | rfl | rfl | rfl | rfl | rfl | rfl <;> simp [namesN] at h ⊢
  · rw [namesN_none hk] at h; cases h
theorem kinds1 {k : Int} (h : namesN k = 1) : k = 2 ∨ k = 3 ∨ k = 6 ∨ k = 8 ∨ k = 9 ∨ k = 10 := by
  by_cases hk : 1 ≤ k ∧ k ≤ 12
  · rcases kinds hk with rfl | rfl | rfl | rfl | rfl | rfl | rfl | rfl | rfl | rfl | rfl | rfl <;> simp [namesN] at h ⊢
  · rw [namesN_none hk] at h; cases h
theorem kinds2 {k : Int} (h : namesN k = 2) : k = 4 ∨ k = 5 ∨ k = 7 ∨ k = 11 ∨ k = 12 := by
  by_cases hk : 1 ≤ k ∧ k ≤ 12
  · rcases kinds hk with rfl | rfl | rfl | rfl | rfl | rfl | rfl | rfl | rfl | rfl | rfl | rfl <;> simp [namesN] at h ⊢
  · rw [namesN_none hk] at h; cases h
theorem name_long2 {s : ByteArray} (h : goodName s = true) : s.size ≤ 2 := by
  simp only [goodName, decide_eq_true_eq] at h
  exact h.2.2
theorem name_full {s : ByteArray} (h : goodName s = true) : s.toList.isEmpty = false := by
  simp only [goodName, decide_eq_true_eq] at h
  have h2 : s.size = s.data.toList.length := by simp
  rw [ByteArray.toList_eq]
  cases hh : s.data.toList with
  | nil => rw [hh, List.length_nil] at h2; omega
  | cons x l => rfl

theorem bodyL_none {k : Int} (hk : ¬ (1 ≤ k ∧ k ≤ 12)) (a b : List UInt8) : bodyL k a b = [] := by
  unfold bodyL
  repeat (rw [if_neg (by omega)])
theorem names_some {k : Int} (hk : 1 ≤ k ∧ k ≤ 12) : 0 ≤ namesN k := by
  rcases kinds hk with rfl | rfl | rfl | rfl | rfl | rfl | rfl | rfl | rfl | rfl | rfl | rfl <;> decide

set_option maxHeartbeats 3200000 in
theorem specStmtText (k : Int) (a b : ByteArray) (w : World) (ha : a.size ≤ maxLen) (hb : b.size ≤ maxLen) :
    Calls Tryz.prog 32 #[stV k a b] w (GaveB (.string (textS k a b)) w) := by
  have hB1 : Below w.heap.size w (w.alloc (.cells #[.int .i64 k, .string a, .string b] 42)) := (Below.refl _ _).alloc (Nat.le_refl _) _
  rcases namesN_four k with hn | hn | hn | hn
  · have HT := Lib.hid (show textS k a b = ⟨#[]⟩ from by simp [textS, textL, bodyL_none (k := k) (fun hk => by have := names_some hk; omega)])
    rw [HT.out]
    have HN := Lib.hid hn
    clear hn HT
    go_enter Tryz.func32, Tryz.ntmps32
    go_wp2_with fail
    refine (specNamesOf _ _).mono ?_
    rw [HN.out]
    rintro e w1 ⟨rfl, rfl⟩
    go_wp2
    go_ret
    exact ⟨rfl, hB1⟩
  · cases hga : goodName a with
    | true =>
      have hae := name_full hga
      rw [textS_no (k := k) (a := a) (b := b) (by simp [canS, hn, hae])]
      have HN := Lib.hid hn
      have HA := Lib.hid hga
      clear hn hga hae
      go_enter Tryz.func32, Tryz.ntmps32
      go_wp2_with fail
      refine (specNamesOf _ _).mono ?_
      rw [HN.out]
      rintro e w1 ⟨rfl, rfl⟩
      go_wp2_with fail
      refine (specIsName a _ ha).mono ?_
      rw [HA.out]
      rintro e w1 ⟨rfl, rfl⟩
      go_wp2
      go_ret
      exact ⟨rfl, hB1⟩
    | false =>
      cases hgb : goodName b with
      | true =>
        have hbe := name_full hgb
        rw [textS_no (k := k) (a := a) (b := b) (by simp [canS, hn, hbe])]
        have HN := Lib.hid hn
        have HA := Lib.hid hga
        have HB := Lib.hid hgb
        clear hn hga hgb hbe
        go_enter Tryz.func32, Tryz.ntmps32
        go_wp2_with fail
        refine (specNamesOf _ _).mono ?_
        rw [HN.out]
        rintro e w1 ⟨rfl, rfl⟩
        go_wp2_with fail
        refine (specIsName a _ ha).mono ?_
        rw [HA.out]
        rintro e w1 ⟨rfl, rfl⟩
        go_wp2_with fail
        refine (specIsName b _ hb).mono ?_
        rw [HB.out]
        rintro e w1 ⟨rfl, rfl⟩
        go_wp2
        go_ret
        exact ⟨rfl, hB1⟩
      | false =>
        cases hae : a.toList.isEmpty with
        | false =>
          rw [textS_no (k := k) (a := a) (b := b) (by simp [canS, hn, hae])]
          have HN := Lib.hid hn
          have HA := Lib.hid hga
          have HB := Lib.hid hgb
          clear hn hga hgb
          go_enter Tryz.func32, Tryz.ntmps32
          go_wp2_with fail
          refine (specNamesOf _ _).mono ?_
          rw [HN.out]
          rintro e w1 ⟨rfl, rfl⟩
          go_wp2_with fail
          refine (specIsName a _ ha).mono ?_
          rw [HA.out]
          rintro e w1 ⟨rfl, rfl⟩
          go_wp2_with fail
          refine (specIsName b _ hb).mono ?_
          rw [HB.out]
          rintro e w1 ⟨rfl, rfl⟩
          go_wp2
          go_ret
          exact ⟨rfl, hB1⟩
        | true =>
          cases hbe : b.toList.isEmpty with
          | false =>
            rw [textS_no (k := k) (a := a) (b := b) (by simp [canS, hn, hae, hbe])]
            have HN := Lib.hid hn
            have HA := Lib.hid hga
            have HB := Lib.hid hgb
            clear hn hga hgb
            go_enter Tryz.func32, Tryz.ntmps32
            go_wp2_with fail
            refine (specNamesOf _ _).mono ?_
            rw [HN.out]
            rintro e w1 ⟨rfl, rfl⟩
            go_wp2_with fail
            refine (specIsName a _ ha).mono ?_
            rw [HA.out]
            rintro e w1 ⟨rfl, rfl⟩
            go_wp2_with fail
            refine (specIsName b _ hb).mono ?_
            rw [HB.out]
            rintro e w1 ⟨rfl, rfl⟩
            go_wp2
            go_ret
            exact ⟨rfl, hB1⟩
          | true =>
            have HT := Lib.hid (show ∀ s : ByteArray, s.data.toList = bodyL k a.data.toList b.data.toList → s = textS k a b from fun s h => textS_yes (by simp [canS, hn, hae]) (by simp [canS, hn, hbe]) h)
            generalize htt : textS k a b = tt at *
            clear htt
            have HN := Lib.hid hn
            have HA := Lib.hid hga
            have HB := Lib.hid hgb
            clear hn hga hgb
            rcases (show k = 1 from kinds0 HN.out) with rfl
            all_goals
              go_enter Tryz.func32, Tryz.ntmps32
              go_wp2_with fail
              refine (specNamesOf _ _).mono ?_
              rw [HN.out]
              rintro e w1 ⟨rfl, rfl⟩
              go_wp2_with fail
              refine (specIsName a _ ha).mono ?_
              rw [HA.out]
              rintro e w1 ⟨rfl, rfl⟩
              go_wp2_with fail
              refine (specIsName b _ hb).mono ?_
              rw [HB.out]
              rintro e w1 ⟨rfl, rfl⟩
              go_wp2
              go_ret
              exact ⟨ret_str (HT.out _ (by simp [bodyL])), hB1⟩
  · cases hga : goodName a with
    | false =>
      rw [textS_no (k := k) (a := a) (b := b) (by simp [canS, hn, hga])]
      have HN := Lib.hid hn
      have HA := Lib.hid hga
      clear hn hga
      go_enter Tryz.func32, Tryz.ntmps32
      go_wp2_with fail
      refine (specNamesOf _ _).mono ?_
      rw [HN.out]
      rintro e w1 ⟨rfl, rfl⟩
      go_wp2_with fail
      refine (specIsName a _ ha).mono ?_
      rw [HA.out]
      rintro e w1 ⟨rfl, rfl⟩
      go_wp2
      go_ret
      exact ⟨rfl, hB1⟩
    | true =>
      have za := name_long2 hga
      cases hgb : goodName b with
      | true =>
        have hbe := name_full hgb
        rw [textS_no (k := k) (a := a) (b := b) (by simp [canS, hn, hga, hbe])]
        have HN := Lib.hid hn
        have HA := Lib.hid hga
        have HB := Lib.hid hgb
        clear hn hga hgb hbe
        go_enter Tryz.func32, Tryz.ntmps32
        go_wp2_with fail
        refine (specNamesOf _ _).mono ?_
        rw [HN.out]
        rintro e w1 ⟨rfl, rfl⟩
        go_wp2_with fail
        refine (specIsName a _ ha).mono ?_
        rw [HA.out]
        rintro e w1 ⟨rfl, rfl⟩
        go_wp2_with fail
        refine (specIsName b _ hb).mono ?_
        rw [HB.out]
        rintro e w1 ⟨rfl, rfl⟩
        go_wp2
        go_ret
        exact ⟨rfl, hB1⟩
      | false =>
        cases hbe : b.toList.isEmpty with
        | false =>
          rw [textS_no (k := k) (a := a) (b := b) (by simp [canS, hn, hga, hbe])]
          have HN := Lib.hid hn
          have HA := Lib.hid hga
          have HB := Lib.hid hgb
          clear hn hga hgb
          go_enter Tryz.func32, Tryz.ntmps32
          go_wp2_with fail
          refine (specNamesOf _ _).mono ?_
          rw [HN.out]
          rintro e w1 ⟨rfl, rfl⟩
          go_wp2_with fail
          refine (specIsName a _ ha).mono ?_
          rw [HA.out]
          rintro e w1 ⟨rfl, rfl⟩
          go_wp2_with fail
          refine (specIsName b _ hb).mono ?_
          rw [HB.out]
          rintro e w1 ⟨rfl, rfl⟩
          go_wp2
          go_ret
          exact ⟨rfl, hB1⟩
        | true =>
          have HT := Lib.hid (show ∀ s : ByteArray, s.data.toList = bodyL k a.data.toList b.data.toList → s = textS k a b from fun s h => textS_yes (by simp [canS, hn, hga]) (by simp [canS, hn, hbe]) h)
          generalize htt : textS k a b = tt at *
          clear htt
          have HN := Lib.hid hn
          have HA := Lib.hid hga
          have HB := Lib.hid hgb
          clear hn hga hgb
          rcases (show k = 2 ∨ k = 3 ∨ k = 6 ∨ k = 8 ∨ k = 9 ∨ k = 10 from kinds1 HN.out) with rfl | rfl | rfl | rfl | rfl | rfl
          all_goals
            go_enter Tryz.func32, Tryz.ntmps32
            go_wp2_with fail
            refine (specNamesOf _ _).mono ?_
            rw [HN.out]
            rintro e w1 ⟨rfl, rfl⟩
            go_wp2_with fail
            refine (specIsName a _ ha).mono ?_
            rw [HA.out]
            rintro e w1 ⟨rfl, rfl⟩
            go_wp2_with fail
            refine (specIsName b _ hb).mono ?_
            rw [HB.out]
            rintro e w1 ⟨rfl, rfl⟩
            go_wp2
            go_ret
            exact ⟨ret_str (HT.out _ (by simp [bodyL])), hB1⟩
  · cases hga : goodName a with
    | false =>
      rw [textS_no (k := k) (a := a) (b := b) (by simp [canS, hn, hga])]
      have HN := Lib.hid hn
      have HA := Lib.hid hga
      clear hn hga
      go_enter Tryz.func32, Tryz.ntmps32
      go_wp2_with fail
      refine (specNamesOf _ _).mono ?_
      rw [HN.out]
      rintro e w1 ⟨rfl, rfl⟩
      go_wp2_with fail
      refine (specIsName a _ ha).mono ?_
      rw [HA.out]
      rintro e w1 ⟨rfl, rfl⟩
      go_wp2
      go_ret
      exact ⟨rfl, hB1⟩
    | true =>
      have za := name_long2 hga
      cases hgb : goodName b with
      | false =>
        rw [textS_no (k := k) (a := a) (b := b) (by simp [canS, hn, hga, hgb])]
        have HN := Lib.hid hn
        have HA := Lib.hid hga
        have HB := Lib.hid hgb
        clear hn hga hgb
        go_enter Tryz.func32, Tryz.ntmps32
        go_wp2_with fail
        refine (specNamesOf _ _).mono ?_
        rw [HN.out]
        rintro e w1 ⟨rfl, rfl⟩
        go_wp2_with fail
        refine (specIsName a _ ha).mono ?_
        rw [HA.out]
        rintro e w1 ⟨rfl, rfl⟩
        go_wp2_with fail
        refine (specIsName b _ hb).mono ?_
        rw [HB.out]
        rintro e w1 ⟨rfl, rfl⟩
        go_wp2
        go_ret
        exact ⟨rfl, hB1⟩
      | true =>
        have zb := name_long2 hgb
        have HT := Lib.hid (show ∀ s : ByteArray, s.data.toList = bodyL k a.data.toList b.data.toList → s = textS k a b from fun s h => textS_yes (by simp [canS, hn, hga]) (by simp [canS, hn, hgb]) h)
        generalize htt : textS k a b = tt at *
        clear htt
        have HN := Lib.hid hn
        have HA := Lib.hid hga
        have HB := Lib.hid hgb
        clear hn hga hgb
        rcases (show k = 4 ∨ k = 5 ∨ k = 7 ∨ k = 11 ∨ k = 12 from kinds2 HN.out) with rfl | rfl | rfl | rfl | rfl
        all_goals
          go_enter Tryz.func32, Tryz.ntmps32
          go_wp2_with fail
          refine (specNamesOf _ _).mono ?_
          rw [HN.out]
          rintro e w1 ⟨rfl, rfl⟩
          go_wp2_with fail
          refine (specIsName a _ ha).mono ?_
          rw [HA.out]
          rintro e w1 ⟨rfl, rfl⟩
          go_wp2_with fail
          refine (specIsName b _ hb).mono ?_
          rw [HB.out]
          rintro e w1 ⟨rfl, rfl⟩
          go_wp2
          go_ret
          exact ⟨ret_str (HT.out _ (by simp [bodyL])), hB1⟩
end Go.Proofs.YtabedmjaodinbaaGreatDoor
