/-
  Statements: what chapter 4's functions come to; the law's own helpers over a statement. A statement is a struct of a kind and two names.
-/
import Derived.Test.YtcgkaefacdblnaaDoorWords
import Derived.Test.YtcgkaefacdblnaaDoorChecked
import Derived.Laws.ResultCell
namespace Go.Proofs.YtcgkaefacdblnaaDoor
open Go Go.RowKit

abbrev stV (k : Int) (a b : ByteArray) : Value := .agg #[.int .i64 k, .string a, .string b]
def isTestS (k : Int) : Bool := decide (9 ≤ k) && decide (k ≤ 12)
def oppS (k : Int) : Int := if k = 9 then 10 else if k = 10 then 9 else if k = 11 then 12 else 11
theorem isTestS_true {k : Int} : isTestS k = true ↔ 9 ≤ k ∧ k ≤ 12 := by simp [isTestS]
theorem isTestS_four {k : Int} (h : isTestS k = true) : k = 9 ∨ k = 10 ∨ k = 11 ∨ k = 12 := by rw [isTestS_true] at h; omega

/-- It returned x; what was there is as it was. -/
def GaveB (x : Value) (w : World) (e : Ending) (w' : World) : Prop := e = .returned x ∧ Below w.heap.size w w'

set_option maxHeartbeats 400000 in
theorem lawToStmt (k : Int) (a b : ByteArray) (w : World) : Calls Tryd.prog 22 #[stV k a b] w (GaveB (stV k a b) w) := by
  go_enter Tryd.func22, Tryd.ntmps22
  go_wp2
  refine bodyPost_ret (v := stV k a b) (by simp [results, Tryd.results22, go_sem]) rfl ⟨rfl, ?_⟩
  repeat (first | exact Below.refl _ _ | refine Below.alloc ?_ (by simp <;> omega) _ | refine Below.setCell ?_ (by simp <;> omega) _)

/-- The size guard: an int; where it is not negative, the names fit into the allowance. -/
def SzStmtEnd (a b : ByteArray) (left : Nat) (w : World) (e : Ending) (w' : World) : Prop :=
  ∃ r : Int, e = .returned (.int .i64 r) ∧ Below w.heap.size w w' ∧ r ≤ left ∧ (0 ≤ r → (a.size : Int) + b.size + r = left)
set_option maxHeartbeats 400000 in
theorem szStmt (k : Int) (a b : ByteArray) (left : Nat) (w : World) (hl : left ≤ 1099511627776) (ha : a.size ≤ maxLen) (hb : b.size ≤ maxLen) : Calls Tryd.prog 19 #[stV k a b, .int .i64 left] w (SzStmtEnd a b left w) := by
  unfold maxLen at ha hb
  by_cases h0 : (left : Int) - a.size < 0
  · go_enter Tryd.func19, Tryd.ntmps19
    go_wp2
    go_ret
    exact ⟨-1, rfl, (Below.refl _ _).alloc (Nat.le_refl _) _, by omega, fun h => by omega⟩
  · by_cases h1 : (left : Int) - a.size - b.size < 0
    · go_enter Tryd.func19, Tryd.ntmps19
      go_wp2
      go_ret
      exact ⟨-1, rfl, (Below.refl _ _).alloc (Nat.le_refl _) _, by omega, fun h => by omega⟩
    · go_enter Tryd.func19, Tryd.ntmps19
      go_wp2
      go_ret
      exact ⟨(left : Int) - a.size - b.size, rfl, (Below.refl _ _).alloc (Nat.le_refl _) _, by omega, fun h => by omega⟩

theorem str_eq_self (s : ByteArray) : (s.toList == s.toList) = true := by simp
theorem specIn3 (a x y : Int) (w : World) : Calls Tryd.prog 55 #[.int .i64 a, .int .i64 x, .int .i64 y] w fun e w' => e = .returned (.bool (decide (x ≤ a) && decide (a ≤ y))) ∧ w = w' := by
  by_cases h0 : x ≤ a <;> by_cases h1 : a ≤ y
  all_goals
    go_enter Tryd.func55, Tryd.ntmps55
    go_wp2
    go_ret
    exact ⟨by simp [h0, h1], rfl⟩

theorem specIsTest (k : Int) (a b : ByteArray) (w : World) : Calls Tryd.prog 46 #[stV k a b] w (GaveB (.bool (isTestS k)) w) := by
  go_enter Tryd.func46, Tryd.ntmps46
  go_wp2_with fail
  refine (specIn3 k 9 12 _).mono ?_
  rintro e w1 ⟨rfl, rfl⟩
  go_wp2
  go_ret
  exact ⟨rfl, (Below.refl _ _).alloc (Nat.le_refl _) _⟩

def noneS : Value := .tuple #[stV 0 ⟨#[]⟩ ⟨#[]⟩, .bool false]
theorem bcell {W w1 : World} (hb : Below W.heap.size W w1) : (∀ b o, b < W.heap.size → w1.cell? ⟨b, o, none⟩ = W.cell? ⟨b, o, none⟩) ∧ (∀ b o, b < W.heap.size → w1.frozen? ⟨b, o, none⟩ = W.frozen? ⟨b, o, none⟩) :=
  ⟨fun b o h => hb.cell (p := ⟨b, o, none⟩) h, fun b o h => hb.frozen (p := ⟨b, o, none⟩) h⟩

set_option maxHeartbeats 800000 in
theorem specOppositeYes (k : Int) (a b : ByteArray) (w : World) (h : isTestS k = true) : Calls Tryd.prog 17 #[stV k a b] w (GaveB (.tuple #[stV (oppS k) a b, .bool true]) w) := by
  rcases isTestS_four h with rfl | rfl | rfl | rfl
  all_goals
    clear h
    simp only [oppS]
    go_enter Tryd.func17, Tryd.ntmps17
    go_wp2_with fail
    refine (specIsTest _ a b _).mono ?_
    rintro e w1 ⟨rfl, hb1⟩
    obtain ⟨hc, hf⟩ := bcell hb1
    have hz := hb1.size
    simp at hz
    simp only [show isTestS 9 = true from rfl, show isTestS 10 = true from rfl, show isTestS 11 = true from rfl, show isTestS 12 = true from rfl]
    go_wp2
    refine bodyPost_ret (v := .tuple #[stV _ a b, .bool true]) (by simp [results, Tryd.results17, go_sem, hc]) rfl ⟨rfl, ?_⟩
    repeat (first | exact Below.alloc (Below.alloc (Below.refl _ _) (by simp) _) (by simp) _ | exact Below.trans (Below.alloc (Below.alloc (Below.refl _ _) (by simp) _) (by simp) _) (Below.mono hb1 (by simp <;> omega)) | refine Below.setCell ?_ (by simp <;> omega) _)

set_option maxHeartbeats 800000 in
theorem specOppositeNo (k : Int) (a b : ByteArray) (w : World) (h : isTestS k = false) : Calls Tryd.prog 17 #[stV k a b] w (GaveB (.tuple #[stV 0 ⟨#[]⟩ ⟨#[]⟩, .bool false]) w) := by
  have H := Lib.hid h
  clear h
  go_enter Tryd.func17, Tryd.ntmps17
  go_wp2_with fail
  refine (specIsTest _ a b _).mono ?_
  rw [H.out]
  rintro e w1 ⟨rfl, hb1⟩
  obtain ⟨hc, hf⟩ := bcell hb1
  have hz := hb1.size
  simp at hz
  go_wp2
  refine bodyPost_ret (v := .tuple #[stV 0 ⟨#[]⟩ ⟨#[]⟩, .bool false]) (by simp [results, Tryd.results17, go_sem, hc]) rfl ⟨rfl, ?_⟩
  repeat (first | exact Below.trans (Below.alloc (Below.alloc (Below.refl _ _) (by simp) _) (by simp) _) (Below.mono hb1 (by simp <;> omega)) | refine Below.setCell ?_ (by simp <;> omega) _)

end Go.Proofs.YtcgkaefacdblnaaDoor
