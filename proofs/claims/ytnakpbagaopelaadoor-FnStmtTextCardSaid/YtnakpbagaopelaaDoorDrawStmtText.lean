/-
  The draws of chapter 5: a statement, a text of one that is turned a little.
-/
import Derived.Test.YtnakpbagaopelaaDoorDrawStmt
import Derived.Test.YtnakpbagaopelaaDoorTurned
import Derived.Test.YtnakpbagaopelaaDoorStmtText
namespace Go.Proofs.YtnakpbagaopelaaDoor
open Go Go.RowKit

theorem bodyL_size (k : Int) (a b : List UInt8) : (bodyL k a b).length ≤ a.length + b.length + 7 := by
  by_cases hk : 1 ≤ k ∧ k ≤ 12
  · rcases kinds hk with rfl | rfl | rfl | rfl | rfl | rfl | rfl | rfl | rfl | rfl | rfl | rfl <;> simp [bodyL] <;> omega
  · rw [bodyL_none hk]
    exact Nat.zero_le _
theorem textS_size (k : Int) (a b : ByteArray) : (textS k a b).size ≤ 11 := by
  show (textL k a.data.toList b.data.toList).length ≤ 11
  unfold textL
  split
  · rename_i h
    simp only [okL, ← canS_list, Bool.and_eq_true] at h
    have h1 := canS_size h.1
    have h2 := canS_size h.2
    have h3 := bodyL_size k a.data.toList b.data.toList
    have e : ∀ s : ByteArray, s.data.toList.length = s.size := fun s => by simp
    rw [e, e] at h3
    omega
  · simp

set_option maxHeartbeats 800000 in
theorem drawStmtText (a : Option Addr) (n cap : Nat) (w : World) (hn : n ≤ 1099511627776) (hcode : Code8 w w.heap.size n a) : Calls Tryd.prog 7 #[.slice a n cap] w (SomeStmt w) := by
  have hcode0 : ∀ o, Code8 (w.alloc o) (w.alloc o).heap.size n a := fun o => (hcode.keeps fun p hp => ((Below.refl w.heap.size w).alloc (Nat.le_refl _) o).cell hp).grow (by simp)
  go_enter Tryd.func7, Tryd.ntmps7
  go_wp2_with fail
  refine (drawNew a n cap _ hn (hcode0 _)).mono ?_
  rintro e w1 ⟨g, rfl, hg, hc1, hb1⟩
  have hg' : w.heap.size < g := by simp at hg; omega
  have hg1 := hc1.lt
  obtain ⟨k1, f1⟩ := bcell hb1
  have hB1 : Below w.heap.size w w1 := ((Below.refl _ _).alloc (Nat.le_refl _) _).trans (hb1.mono (by simp))
  clear hb1 hg
  go_wp2_with fail
  refine (drawBent g _ hc1).mono ?_
  rintro e w2 ⟨k, sa, sb, hk0, hk1, ha, hb, rfl, hc2, hw2⟩
  obtain ⟨k2, f2⟩ := gcell hw2
  have hs1 : w.heap.size < w1.heap.size := by omega
  have hs2 : w.heap.size < w2.heap.size := Nat.lt_of_lt_of_le hs1 hw2.size
  have hn1 : ¬ w.heap.size = g := by omega
  have hB2 : Below w.heap.size w w2 := below_only hB1 hw2 (by omega) (by omega)
  clear hw2
  go_wp2
  refine bodyPost_ret (v := stV k sa sb) (by simp [results, Tryd.results7, go_sem, k1, k2, hs1, hn1]) rfl ⟨k, sa, sb, hk0, hk1, ha, hb, rfl, ?_⟩
  repeat (first | with_reducible exact hB2 | with_reducible refine Below.setCell ?_ (by simp) _)

/-- A text, drawn from a law's bytes. -/
def SomeText (w : World) (e : Ending) (w' : World) : Prop := ∃ s : ByteArray, s.size ≤ 1048576 ∧ e = .returned (.string s) ∧ Below w.heap.size w w'
def bits6 : List ByteArray := [⟨#[120]⟩, ⟨#[61]⟩, ⟨#[46, 110]⟩, ⟨#[110, 117, 108, 108]⟩, ⟨#[32]⟩, ⟨#[33]⟩]
theorem bits6_size : ∀ s ∈ bits6, s.size ≤ 21 := by decide
set_option maxHeartbeats 800000 in
theorem drawParseStmt (a : Option Addr) (n cap : Nat) (w : World) (hn : n ≤ 1099511627776) (hcode : Code8 w w.heap.size n a) : Calls Tryd.prog 11 #[.slice a n cap] w (SomeText w) := by
  go_enter Tryd.func11, Tryd.ntmps11
  go_wp2_with fail
  refine (drawNew a n cap _ hn hcode).mono ?_
  rintro e w1 ⟨g, rfl, hg, hc1, hb1⟩
  go_wp2_with fail
  refine (drawBent g _ hc1).mono ?_
  rintro e w2 ⟨k, sa, sb, hk0, hk1, ha, hb, rfl, hc2, hw2⟩
  have hB2 : Below w.heap.size w w2 := below_only hb1 hw2 hb1.size hg
  have hz := textS_size k sa sb
  generalize hx : textS k sa sb = x at *
  have HX := Lib.hid hx
  clear hx
  go_wp2_with fail
  refine (specStmtText k sa sb _ (by unfold maxLen; omega) (by unfold maxLen; omega)).mono ?_
  rw [HX.out]
  rintro e w3 ⟨rfl, hb3⟩
  have hc3 := hc2.keeps hb3
  have hg3 := hc3.lt
  have hB3 : Below w.heap.size w w3 := hB2.trans (hb3.mono hB2.size)
  go_wp2_with fail
  refine (drawTurned g 6 11 (some (⟨w3.heap.size, 0, none⟩ : Addr)) bits6 x _ hz (by omega) (by decide) (by decide) bits6_size (hc3.alloc _) (beside_at (strVals bits6).toArray (by simp) (by first | omega | (simp; omega)))).mono ?_
  rintro e w4 ⟨s, hs, rfl, hc4, hw4⟩
  have hB4 : Below w.heap.size w w4 := below_only (hB3.alloc hB3.size _) hw4 (by have := hB3.size; simp; omega) hg
  go_wp2
  go_ret
  exact ⟨s, by omega, rfl, hB4⟩
end Go.Proofs.YtnakpbagaopelaaDoor
