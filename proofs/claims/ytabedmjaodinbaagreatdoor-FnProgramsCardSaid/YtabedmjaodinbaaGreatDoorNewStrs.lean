/-
  A new row of strings that a call makes: its end, and what an append to it asks.
-/
import Derived.Test.YtabedmjaodinbaaGreatDoorWords
import Derived.Test.YtabedmjaodinbaaGreatDoorChecked
namespace Go.Proofs.YtabedmjaodinbaaGreatDoor
open Go Go.RowKit

theorem strInfo : (Tryz.prog.info? 9).map (fun i => (i.zero, i.size, i.bytes)) = some (some (.string ⟨#[]⟩), 1, 16) := by kernel_rfl

/-- A new row that holds these strings. -/
def StrsEnd (ss : List ByteArray) (w : World) (e : Ending) (w' : World) : Prop :=
  ∃ a cap, e = .returned (.slice a ss.length cap) ∧ ss.length ≤ cap ∧ w'.ownsRow w.heap.size 9 1 (.slice a ss.length cap) ss.length (strVals ss) ∧ Below w.heap.size w w'
theorem strs_end {w w' : World} {v : Value} {n : Nat} {ss : List ByteArray} (hn : n = ss.length) (h : w'.ownsRow w.heap.size 9 1 v n (strVals ss)) (hb : Below w.heap.size w w') : StrsEnd ss w (.returned v) w' := by
  subst hn
  rcases h.2 with ⟨rfl, h0⟩ | ⟨g, cap, cur, rfl, hbg, hg, hnc, hcm, hcs, ht⟩
  · refine ⟨none, 0, ?_, by omega, ?_, hb⟩
    · rw [h0]
    · rw [h0] at h ⊢
      exact h
  · exact ⟨_, cap, rfl, hnc, h, hb⟩
theorem cell_one {w : World} {e : TypeId} (x : Value) : ∀ (j : Nat) (u : Value), [x][j]? = some u → (w.alloc (.cells #[x] e)).cell? ((⟨w.heap.size, 0, none⟩ : Addr).add j) = some u := by
  intro j u hu
  match j, hu with
  | 0, hu =>
    simp at hu
    subst hu
    simp [Addr.add]
  | j + 1, hu => simp at hu
theorem string_oneCell (x : ByteArray) : ∀ u ∈ [Value.string x], u.oneCell' = true := by
  intro u hu
  simp at hu
  subst hu
  rfl
end Go.Proofs.YtabedmjaodinbaaGreatDoor
