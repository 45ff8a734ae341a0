/-
  The model's test whether a number stands in a list.
-/
import Derived.Test.YtplchhahjmoodaaDoorSpecNames
import Derived.Test.YtplchhahjmoodaaDoorRep
namespace Go.Proofs.YtplchhahjmoodaaDoor
open Go Go.RowKit Go.Sort

theorem posFrom_none {n : Int} : ∀ {zs : List Int} {k : Nat}, n ∉ zs → posFrom n k zs = []
  | [], _, _ => rfl
  | z :: zs, k, h => by
    simp only [List.mem_cons, not_or] at h
    rw [posFrom, if_neg (Ne.symm h.1)]
    exact posFrom_none h.2
theorem posFrom_some {n : Int} : ∀ {zs : List Int} {k : Nat}, n ∈ zs → ∃ (j : Nat) (r : List Int), posFrom n k zs = ((k + j : Nat) : Int) :: r ∧ ∃ h : j < zs.length, zs[j] = n
  | [], _, h => by simp at h
  | z :: zs, k, h => by
    by_cases e : z = n
    · exact ⟨0, _, by rw [posFrom, if_pos e]; rfl, by simp, by simpa using e⟩
    · obtain ⟨j, r, h1, h2, h3⟩ := posFrom_some (zs := zs) (k := k + 1) (by rcases List.mem_cons.1 h with h | h; exact absurd h.symm e; exact h)
      exact ⟨j + 1, r, by rw [posFrom, if_neg e, h1, show k + 1 + j = k + (j + 1) by omega], by simp; omega, by simpa using h3⟩
theorem posFrom_pos (n : Int) (zs : List Int) : decide (0 < (posFrom n 0 zs).length) = decide (n ∈ zs) := by
  congr 1
  simp only [eq_iff_iff]
  constructor
  · intro h
    refine Classical.byContradiction fun hno => ?_
    rw [posFrom_none hno] at h
    simp at h
  · intro h
    obtain ⟨j, r, e, _⟩ := posFrom_some (k := 0) h
    rw [e]
    simp

end Go.Proofs.YtplchhahjmoodaaDoor
