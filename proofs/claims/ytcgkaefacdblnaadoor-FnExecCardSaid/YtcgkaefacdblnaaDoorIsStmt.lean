/-
  A statement over variables: what chapter 4's IsStmt comes to; the walks of the program's function and of the model's.
-/
import Derived.Test.YtcgkaefacdblnaaDoorStmt
import Derived.Test.YtcgkaefacdblnaaDoorNamesOf
import Derived.Test.YtcgkaefacdblnaaDoorImplNames
namespace Go.Proofs.YtcgkaefacdblnaaDoor
open Go Go.RowKit

def operandB (ss : List ByteArray) (s : ByteArray) (used : Bool) : Bool := if used then decide (0 ≤ place ss s) else s.toList.isEmpty
def stmtB (ss : List ByteArray) (k : Int) (a b : ByteArray) : Bool := goodVars ss && decide (0 ≤ namesN k) && operandB ss a (decide (1 ≤ namesN k)) && operandB ss b (decide (2 ≤ namesN k))

set_option maxHeartbeats 400000 in
theorem implIsOperand (a : Option Addr) (cap : Nat) (ss : List ByteArray) (s : ByteArray) (used : Bool) (w : World) (hlen : ss.length ≤ maxLen) (hrow : Row w w.heap.size a (strVals ss)) :
    Calls Tryd.prog 69 #[.slice a ss.length cap, .string s, .bool used] w (GaveW (.bool (operandB ss s used)) w) := by
  cases used with
  | true =>
    go_enter Tryd.func69, Tryd.ntmps69
    go_wp2_with fail
    refine (implIndexOf _ _ ss s _ hlen hrow).mono ?_
    rintro e w1 ⟨rfl, rfl⟩
    go_wp2
    go_ret
    exact ⟨rfl, rfl⟩
  | false =>
    go_enter Tryd.func69, Tryd.ntmps69
    go_wp2
    go_ret
    exact ⟨rfl, rfl⟩

set_option maxHeartbeats 3200000 in
theorem implIsStmt (a : Option Addr) (cap : Nat) (ss : List ByteArray) (k : Int) (sa sb : ByteArray) (w : World) (hlen : ss.length ≤ maxLen) (hws : ∀ s ∈ ss, s.size ≤ maxLen) (hrow : Row w w.heap.size a (strVals ss)) (hT : HasNamesTable w) :
    Calls Tryd.prog 36 #[.slice a ss.length cap, stV k sa sb] w (GaveB (.bool (stmtB ss k sa sb)) w) := by
  have hT1 : HasNamesTable (w.alloc (.cells #[.int .i64 k, .string sa, .string sb] 26)) := hT.keeps ((Below.refl _ _).alloc (Nat.le_refl _) _)
  have hr1 : Row (w.alloc (.cells #[.int .i64 k, .string sa, .string sb] 26)) (w.heap.size + 1) a (strVals ss) := (hrow.below ((Below.refl _ _).alloc (Nat.le_refl _) _)).grow (by omega)
  rcases namesN_four k with hn | hn | hn | hn
  · skip
    rw [show stmtB ss k sa sb = false from by simp [stmtB, operandB, hn]]
    have HN := Lib.hid hn
    clear hn
    go_enter Tryd.func36, Tryd.ntmps36
    go_wp2_with fail
    refine (implNamesOf k _ hT1).mono ?_
    rw [HN.out]
    rintro e w1 ⟨rfl, rfl⟩
    go_wp2
    go_ret
    exact ⟨rfl, (Below.refl _ _).alloc (Nat.le_refl _) _⟩
  · cases hg : goodVars ss with
    | false =>
      rw [show stmtB ss k sa sb = false from by simp [stmtB, operandB, hg]]
      have HN := Lib.hid hn
      have HG := Lib.hid hg
      clear hn hg
      go_enter Tryd.func36, Tryd.ntmps36
      go_wp2_with fail
      refine (implNamesOf k _ hT1).mono ?_
      rw [HN.out]
      rintro e w1 ⟨rfl, rfl⟩
      go_wp2_with fail
      refine (implAreVars _ _ ss _ hlen hws (by simpa using hr1)).mono ?_
      rw [HG.out]
      rintro e w2 ⟨rfl, hb2⟩
      obtain ⟨hc2, _⟩ := bcell hb2
      have hs2 : w.heap.size < w2.heap.size := by have h := hb2.size; simp at h; omega
      have hr2 : Row w2 w2.heap.size a (strVals ss) := (hr1.below (hb2.mono (by simp))).grow (by omega)
      have hB2 : Below w.heap.size w w2 := ((Below.refl _ _).alloc (Nat.le_refl _) _).trans (hb2.mono (by simp))
      clear hb2
      go_wp2
      go_ret
      exact ⟨rfl, hB2⟩
    | true =>
      cases ha : operandB ss sa false with
      | false =>
        rw [show stmtB ss k sa sb = false from by simp [stmtB, hn, hg, ha]]
        have HN := Lib.hid hn
        have HG := Lib.hid hg
        have HA := Lib.hid ha
        clear hn hg ha
        go_enter Tryd.func36, Tryd.ntmps36
        go_wp2_with fail
        refine (implNamesOf k _ hT1).mono ?_
        rw [HN.out]
        rintro e w1 ⟨rfl, rfl⟩
        go_wp2_with fail
        refine (implAreVars _ _ ss _ hlen hws (by simpa using hr1)).mono ?_
        rw [HG.out]
        rintro e w2 ⟨rfl, hb2⟩
        obtain ⟨hc2, _⟩ := bcell hb2
        have hs2 : w.heap.size < w2.heap.size := by have h := hb2.size; simp at h; omega
        have hr2 : Row w2 w2.heap.size a (strVals ss) := (hr1.below (hb2.mono (by simp))).grow (by omega)
        have hB2 : Below w.heap.size w w2 := ((Below.refl _ _).alloc (Nat.le_refl _) _).trans (hb2.mono (by simp))
        clear hb2
        go_wp2_with fail
        refine (implIsOperand _ _ ss sa false _ hlen hr2).mono ?_
        rw [HA.out]
        rintro e w3 ⟨rfl, rfl⟩
        go_wp2
        go_ret
        exact ⟨rfl, hB2⟩
      | true =>
        rw [show stmtB ss k sa sb = operandB ss sb false from by simp [stmtB, hn, hg, ha]]
        have HN := Lib.hid hn
        have HG := Lib.hid hg
        have HA := Lib.hid ha
        clear hn hg ha
        go_enter Tryd.func36, Tryd.ntmps36
        go_wp2_with fail
        refine (implNamesOf k _ hT1).mono ?_
        rw [HN.out]
        rintro e w1 ⟨rfl, rfl⟩
        go_wp2_with fail
        refine (implAreVars _ _ ss _ hlen hws (by simpa using hr1)).mono ?_
        rw [HG.out]
        rintro e w2 ⟨rfl, hb2⟩
        obtain ⟨hc2, _⟩ := bcell hb2
        have hs2 : w.heap.size < w2.heap.size := by have h := hb2.size; simp at h; omega
        have hr2 : Row w2 w2.heap.size a (strVals ss) := (hr1.below (hb2.mono (by simp))).grow (by omega)
        have hB2 : Below w.heap.size w w2 := ((Below.refl _ _).alloc (Nat.le_refl _) _).trans (hb2.mono (by simp))
        clear hb2
        go_wp2_with fail
        refine (implIsOperand _ _ ss sa false _ hlen hr2).mono ?_
        rw [HA.out]
        rintro e w3 ⟨rfl, rfl⟩
        go_wp2_with fail
        refine (implIsOperand _ _ ss sb false _ hlen hr2).mono ?_
        rintro e w3 ⟨rfl, rfl⟩
        go_wp2
        go_ret
        exact ⟨rfl, hB2⟩
  · cases hg : goodVars ss with
    | false =>
      rw [show stmtB ss k sa sb = false from by simp [stmtB, operandB, hg]]
      have HN := Lib.hid hn
      have HG := Lib.hid hg
      clear hn hg
      go_enter Tryd.func36, Tryd.ntmps36
      go_wp2_with fail
      refine (implNamesOf k _ hT1).mono ?_
      rw [HN.out]
      rintro e w1 ⟨rfl, rfl⟩
      go_wp2_with fail
      refine (implAreVars _ _ ss _ hlen hws (by simpa using hr1)).mono ?_
      rw [HG.out]
      rintro e w2 ⟨rfl, hb2⟩
      obtain ⟨hc2, _⟩ := bcell hb2
      have hs2 : w.heap.size < w2.heap.size := by have h := hb2.size; simp at h; omega
      have hr2 : Row w2 w2.heap.size a (strVals ss) := (hr1.below (hb2.mono (by simp))).grow (by omega)
      have hB2 : Below w.heap.size w w2 := ((Below.refl _ _).alloc (Nat.le_refl _) _).trans (hb2.mono (by simp))
      clear hb2
      go_wp2
      go_ret
      exact ⟨rfl, hB2⟩
    | true =>
      cases ha : operandB ss sa true with
      | false =>
        rw [show stmtB ss k sa sb = false from by simp [stmtB, hn, hg, ha]]
        have HN := Lib.hid hn
        have HG := Lib.hid hg
        have HA := Lib.hid ha
        clear hn hg ha
        go_enter Tryd.func36, Tryd.ntmps36
        go_wp2_with fail
        refine (implNamesOf k _ hT1).mono ?_
        rw [HN.out]
        rintro e w1 ⟨rfl, rfl⟩
        go_wp2_with fail
        refine (implAreVars _ _ ss _ hlen hws (by simpa using hr1)).mono ?_
        rw [HG.out]
        rintro e w2 ⟨rfl, hb2⟩
        obtain ⟨hc2, _⟩ := bcell hb2
        have hs2 : w.heap.size < w2.heap.size := by have h := hb2.size; simp at h; omega
        have hr2 : Row w2 w2.heap.size a (strVals ss) := (hr1.below (hb2.mono (by simp))).grow (by omega)
        have hB2 : Below w.heap.size w w2 := ((Below.refl _ _).alloc (Nat.le_refl _) _).trans (hb2.mono (by simp))
        clear hb2
        go_wp2_with fail
        refine (implIsOperand _ _ ss sa true _ hlen hr2).mono ?_
        rw [HA.out]
        rintro e w3 ⟨rfl, rfl⟩
        go_wp2
        go_ret
        exact ⟨rfl, hB2⟩
      | true =>
        rw [show stmtB ss k sa sb = operandB ss sb false from by simp [stmtB, hn, hg, ha]]
        have HN := Lib.hid hn
        have HG := Lib.hid hg
        have HA := Lib.hid ha
        clear hn hg ha
        go_enter Tryd.func36, Tryd.ntmps36
        go_wp2_with fail
        refine (implNamesOf k _ hT1).mono ?_
        rw [HN.out]
        rintro e w1 ⟨rfl, rfl⟩
        go_wp2_with fail
        refine (implAreVars _ _ ss _ hlen hws (by simpa using hr1)).mono ?_
        rw [HG.out]
        rintro e w2 ⟨rfl, hb2⟩
        obtain ⟨hc2, _⟩ := bcell hb2
        have hs2 : w.heap.size < w2.heap.size := by have h := hb2.size; simp at h; omega
        have hr2 : Row w2 w2.heap.size a (strVals ss) := (hr1.below (hb2.mono (by simp))).grow (by omega)
        have hB2 : Below w.heap.size w w2 := ((Below.refl _ _).alloc (Nat.le_refl _) _).trans (hb2.mono (by simp))
        clear hb2
        go_wp2_with fail
        refine (implIsOperand _ _ ss sa true _ hlen hr2).mono ?_
        rw [HA.out]
        rintro e w3 ⟨rfl, rfl⟩
        go_wp2_with fail
        refine (implIsOperand _ _ ss sb false _ hlen hr2).mono ?_
        rintro e w3 ⟨rfl, rfl⟩
        go_wp2
        go_ret
        exact ⟨rfl, hB2⟩
  · cases hg : goodVars ss with
    | false =>
      rw [show stmtB ss k sa sb = false from by simp [stmtB, operandB, hg]]
      have HN := Lib.hid hn
      have HG := Lib.hid hg
      clear hn hg
      go_enter Tryd.func36, Tryd.ntmps36
      go_wp2_with fail
      refine (implNamesOf k _ hT1).mono ?_
      rw [HN.out]
      rintro e w1 ⟨rfl, rfl⟩
      go_wp2_with fail
      refine (implAreVars _ _ ss _ hlen hws (by simpa using hr1)).mono ?_
      rw [HG.out]
      rintro e w2 ⟨rfl, hb2⟩
      obtain ⟨hc2, _⟩ := bcell hb2
      have hs2 : w.heap.size < w2.heap.size := by have h := hb2.size; simp at h; omega
      have hr2 : Row w2 w2.heap.size a (strVals ss) := (hr1.below (hb2.mono (by simp))).grow (by omega)
      have hB2 : Below w.heap.size w w2 := ((Below.refl _ _).alloc (Nat.le_refl _) _).trans (hb2.mono (by simp))
      clear hb2
      go_wp2
      go_ret
      exact ⟨rfl, hB2⟩
    | true =>
      cases ha : operandB ss sa true with
      | false =>
        rw [show stmtB ss k sa sb = false from by simp [stmtB, hn, hg, ha]]
        have HN := Lib.hid hn
        have HG := Lib.hid hg
        have HA := Lib.hid ha
        clear hn hg ha
        go_enter Tryd.func36, Tryd.ntmps36
        go_wp2_with fail
        refine (implNamesOf k _ hT1).mono ?_
        rw [HN.out]
        rintro e w1 ⟨rfl, rfl⟩
        go_wp2_with fail
        refine (implAreVars _ _ ss _ hlen hws (by simpa using hr1)).mono ?_
        rw [HG.out]
        rintro e w2 ⟨rfl, hb2⟩
        obtain ⟨hc2, _⟩ := bcell hb2
        have hs2 : w.heap.size < w2.heap.size := by have h := hb2.size; simp at h; omega
        have hr2 : Row w2 w2.heap.size a (strVals ss) := (hr1.below (hb2.mono (by simp))).grow (by omega)
        have hB2 : Below w.heap.size w w2 := ((Below.refl _ _).alloc (Nat.le_refl _) _).trans (hb2.mono (by simp))
        clear hb2
        go_wp2_with fail
        refine (implIsOperand _ _ ss sa true _ hlen hr2).mono ?_
        rw [HA.out]
        rintro e w3 ⟨rfl, rfl⟩
        go_wp2
        go_ret
        exact ⟨rfl, hB2⟩
      | true =>
        rw [show stmtB ss k sa sb = operandB ss sb true from by simp [stmtB, hn, hg, ha]]
        have HN := Lib.hid hn
        have HG := Lib.hid hg
        have HA := Lib.hid ha
        clear hn hg ha
        go_enter Tryd.func36, Tryd.ntmps36
        go_wp2_with fail
        refine (implNamesOf k _ hT1).mono ?_
        rw [HN.out]
        rintro e w1 ⟨rfl, rfl⟩
        go_wp2_with fail
        refine (implAreVars _ _ ss _ hlen hws (by simpa using hr1)).mono ?_
        rw [HG.out]
        rintro e w2 ⟨rfl, hb2⟩
        obtain ⟨hc2, _⟩ := bcell hb2
        have hs2 : w.heap.size < w2.heap.size := by have h := hb2.size; simp at h; omega
        have hr2 : Row w2 w2.heap.size a (strVals ss) := (hr1.below (hb2.mono (by simp))).grow (by omega)
        have hB2 : Below w.heap.size w w2 := ((Below.refl _ _).alloc (Nat.le_refl _) _).trans (hb2.mono (by simp))
        clear hb2
        go_wp2_with fail
        refine (implIsOperand _ _ ss sa true _ hlen hr2).mono ?_
        rw [HA.out]
        rintro e w3 ⟨rfl, rfl⟩
        go_wp2_with fail
        refine (implIsOperand _ _ ss sb true _ hlen hr2).mono ?_
        rintro e w3 ⟨rfl, rfl⟩
        go_wp2
        go_ret
        exact ⟨rfl, hB2⟩

set_option maxHeartbeats 3200000 in
theorem specIsStmt (a : Option Addr) (cap : Nat) (ss : List ByteArray) (k : Int) (sa sb : ByteArray) (w : World) (hlen : ss.length ≤ maxLen) (hws : ∀ s ∈ ss, s.size ≤ maxLen) (hrow : Row w w.heap.size a (strVals ss)) :
    Calls Tryd.prog 43 #[.slice a ss.length cap, stV k sa sb] w (GaveB (.bool (stmtB ss k sa sb)) w) := by
  have hr1 : Row (w.alloc (.cells #[.int .i64 k, .string sa, .string sb] 26)) (w.heap.size + 1) a (strVals ss) := (hrow.below ((Below.refl _ _).alloc (Nat.le_refl _) _)).grow (by omega)
  have hB1 : Below w.heap.size w (w.alloc (.cells #[.int .i64 k, .string sa, .string sb] 26)) := (Below.refl _ _).alloc (Nat.le_refl _) _
  rcases namesN_four k with hn | hn | hn | hn
  · cases hg : goodVars ss with
    | false =>
      rw [show stmtB ss k sa sb = false from by simp [stmtB, operandB, hg]]
      have HN := Lib.hid hn
      have HG := Lib.hid hg
      clear hn hg
      go_enter Tryd.func43, Tryd.ntmps43
      go_wp2_with fail
      refine (specNamesOf k _).mono ?_
      rw [HN.out]
      rintro e w1 ⟨rfl, rfl⟩
      go_wp2_with fail
      refine (specAreVars _ _ ss _ hlen hws (by simpa using hr1)).mono ?_
      rw [HG.out]
      rintro e w2 ⟨rfl, rfl⟩
      go_wp2
      go_ret
      exact ⟨rfl, hB1⟩
    | true =>
      rw [show stmtB ss k sa sb = false from by simp [stmtB, operandB, hn]]
      have HN := Lib.hid hn
      have HG := Lib.hid hg
      clear hn hg
      go_enter Tryd.func43, Tryd.ntmps43
      go_wp2_with fail
      refine (specNamesOf k _).mono ?_
      rw [HN.out]
      rintro e w1 ⟨rfl, rfl⟩
      go_wp2_with fail
      refine (specAreVars _ _ ss _ hlen hws (by simpa using hr1)).mono ?_
      rw [HG.out]
      rintro e w2 ⟨rfl, rfl⟩
      go_wp2
      go_ret
      exact ⟨rfl, hB1⟩
  · cases hg : goodVars ss with
    | false =>
      rw [show stmtB ss k sa sb = false from by simp [stmtB, operandB, hg]]
      have HN := Lib.hid hn
      have HG := Lib.hid hg
      clear hn hg
      go_enter Tryd.func43, Tryd.ntmps43
      go_wp2_with fail
      refine (specNamesOf k _).mono ?_
      rw [HN.out]
      rintro e w1 ⟨rfl, rfl⟩
      go_wp2_with fail
      refine (specAreVars _ _ ss _ hlen hws (by simpa using hr1)).mono ?_
      rw [HG.out]
      rintro e w2 ⟨rfl, rfl⟩
      go_wp2
      go_ret
      exact ⟨rfl, hB1⟩
    | true =>
      cases ha : sa.toList.isEmpty with
      | false =>
        rw [show stmtB ss k sa sb = false from by simp [stmtB, operandB, hn, hg, ha]]
        have HN := Lib.hid hn
        have HG := Lib.hid hg
        clear hn hg
        go_enter Tryd.func43, Tryd.ntmps43
        go_wp2_with fail
        refine (specNamesOf k _).mono ?_
        rw [HN.out]
        rintro e w1 ⟨rfl, rfl⟩
        go_wp2_with fail
        refine (specAreVars _ _ ss _ hlen hws (by simpa using hr1)).mono ?_
        rw [HG.out]
        rintro e w2 ⟨rfl, rfl⟩
        go_wp2
        go_ret
        exact ⟨rfl, hB1⟩
      | true =>
        cases hb : sb.toList.isEmpty with
        | false =>
          rw [show stmtB ss k sa sb = false from by simp [stmtB, operandB, hn, hg, ha, hb]]
          have HN := Lib.hid hn
          have HG := Lib.hid hg
          clear hn hg
          go_enter Tryd.func43, Tryd.ntmps43
          go_wp2_with fail
          refine (specNamesOf k _).mono ?_
          rw [HN.out]
          rintro e w1 ⟨rfl, rfl⟩
          go_wp2_with fail
          refine (specAreVars _ _ ss _ hlen hws (by simpa using hr1)).mono ?_
          rw [HG.out]
          rintro e w2 ⟨rfl, rfl⟩
          go_wp2
          go_ret
          exact ⟨rfl, hB1⟩
        | true =>
          rw [show stmtB ss k sa sb = true from by simp [stmtB, operandB, hn, hg, ha, hb]]
          have HN := Lib.hid hn
          have HG := Lib.hid hg
          clear hn hg
          go_enter Tryd.func43, Tryd.ntmps43
          go_wp2_with fail
          refine (specNamesOf k _).mono ?_
          rw [HN.out]
          rintro e w1 ⟨rfl, rfl⟩
          go_wp2_with fail
          refine (specAreVars _ _ ss _ hlen hws (by simpa using hr1)).mono ?_
          rw [HG.out]
          rintro e w2 ⟨rfl, rfl⟩
          go_wp2
          go_ret
          exact ⟨rfl, hB1⟩
  · cases hg : goodVars ss with
    | false =>
      rw [show stmtB ss k sa sb = false from by simp [stmtB, operandB, hg]]
      have HN := Lib.hid hn
      have HG := Lib.hid hg
      clear hn hg
      go_enter Tryd.func43, Tryd.ntmps43
      go_wp2_with fail
      refine (specNamesOf k _).mono ?_
      rw [HN.out]
      rintro e w1 ⟨rfl, rfl⟩
      go_wp2_with fail
      refine (specAreVars _ _ ss _ hlen hws (by simpa using hr1)).mono ?_
      rw [HG.out]
      rintro e w2 ⟨rfl, rfl⟩
      go_wp2
      go_ret
      exact ⟨rfl, hB1⟩
    | true =>
      cases hb : sb.toList.isEmpty with
      | false =>
        rw [show stmtB ss k sa sb = false from by simp [stmtB, operandB, hn, hg, hb]]
        have HN := Lib.hid hn
        have HG := Lib.hid hg
        clear hn hg
        go_enter Tryd.func43, Tryd.ntmps43
        go_wp2_with fail
        refine (specNamesOf k _).mono ?_
        rw [HN.out]
        rintro e w1 ⟨rfl, rfl⟩
        go_wp2_with fail
        refine (specAreVars _ _ ss _ hlen hws (by simpa using hr1)).mono ?_
        rw [HG.out]
        rintro e w2 ⟨rfl, rfl⟩
        go_wp2
        go_ret
        exact ⟨rfl, hB1⟩
      | true =>
        cases hp : decide (0 ≤ place ss sa) with
        | false =>
          rw [show stmtB ss k sa sb = false from by simp [stmtB, operandB, hn, hg, hb, hp]]
          have HN := Lib.hid hn
          have HG := Lib.hid hg
          clear hn hg
          go_enter Tryd.func43, Tryd.ntmps43
          go_wp2_with fail
          refine (specNamesOf k _).mono ?_
          rw [HN.out]
          rintro e w1 ⟨rfl, rfl⟩
          go_wp2_with fail
          refine (specAreVars _ _ ss _ hlen hws (by simpa using hr1)).mono ?_
          rw [HG.out]
          rintro e w2 ⟨rfl, rfl⟩
          go_wp2_with fail
          refine (specIndexOf _ _ ss sa _ hlen (by simpa using hr1)).mono ?_
          rintro e w2 ⟨rfl, rfl⟩
          go_wp2
          go_ret
          exact ⟨rfl, hB1⟩
        | true =>
          rw [show stmtB ss k sa sb = true from by simp [stmtB, operandB, hn, hg, hb, hp]]
          have HN := Lib.hid hn
          have HG := Lib.hid hg
          clear hn hg
          go_enter Tryd.func43, Tryd.ntmps43
          go_wp2_with fail
          refine (specNamesOf k _).mono ?_
          rw [HN.out]
          rintro e w1 ⟨rfl, rfl⟩
          go_wp2_with fail
          refine (specAreVars _ _ ss _ hlen hws (by simpa using hr1)).mono ?_
          rw [HG.out]
          rintro e w2 ⟨rfl, rfl⟩
          go_wp2_with fail
          refine (specIndexOf _ _ ss sa _ hlen (by simpa using hr1)).mono ?_
          rintro e w2 ⟨rfl, rfl⟩
          go_wp2
          go_ret
          exact ⟨rfl, hB1⟩
  · cases hg : goodVars ss with
    | false =>
      rw [show stmtB ss k sa sb = false from by simp [stmtB, operandB, hg]]
      have HN := Lib.hid hn
      have HG := Lib.hid hg
      clear hn hg
      go_enter Tryd.func43, Tryd.ntmps43
      go_wp2_with fail
      refine (specNamesOf k _).mono ?_
      rw [HN.out]
      rintro e w1 ⟨rfl, rfl⟩
      go_wp2_with fail
      refine (specAreVars _ _ ss _ hlen hws (by simpa using hr1)).mono ?_
      rw [HG.out]
      rintro e w2 ⟨rfl, rfl⟩
      go_wp2
      go_ret
      exact ⟨rfl, hB1⟩
    | true =>
      cases hp : decide (0 ≤ place ss sa) with
      | false =>
        rw [show stmtB ss k sa sb = false from by simp [stmtB, operandB, hn, hg, hp]]
        have HN := Lib.hid hn
        have HG := Lib.hid hg
        clear hn hg
        go_enter Tryd.func43, Tryd.ntmps43
        go_wp2_with fail
        refine (specNamesOf k _).mono ?_
        rw [HN.out]
        rintro e w1 ⟨rfl, rfl⟩
        go_wp2_with fail
        refine (specAreVars _ _ ss _ hlen hws (by simpa using hr1)).mono ?_
        rw [HG.out]
        rintro e w2 ⟨rfl, rfl⟩
        go_wp2_with fail
        refine (specIndexOf _ _ ss sa _ hlen (by simpa using hr1)).mono ?_
        rintro e w2 ⟨rfl, rfl⟩
        go_wp2
        go_ret
        exact ⟨rfl, hB1⟩
      | true =>
        rw [show stmtB ss k sa sb = decide (0 ≤ place ss sb) from by simp [stmtB, operandB, hn, hg, hp]]
        have HN := Lib.hid hn
        have HG := Lib.hid hg
        clear hn hg
        go_enter Tryd.func43, Tryd.ntmps43
        go_wp2_with fail
        refine (specNamesOf k _).mono ?_
        rw [HN.out]
        rintro e w1 ⟨rfl, rfl⟩
        go_wp2_with fail
        refine (specAreVars _ _ ss _ hlen hws (by simpa using hr1)).mono ?_
        rw [HG.out]
        rintro e w2 ⟨rfl, rfl⟩
        go_wp2_with fail
        refine (specIndexOf _ _ ss sa _ hlen (by simpa using hr1)).mono ?_
        rintro e w2 ⟨rfl, rfl⟩
        go_wp2_with fail
        refine (specIndexOf _ _ ss sb _ hlen (by simpa using hr1)).mono ?_
        rintro e w2 ⟨rfl, rfl⟩
        go_wp2
        go_ret
        exact ⟨rfl, hB1⟩
end Go.Proofs.YtcgkaefacdblnaaDoor
