/-
  Has a structure only known values: the program's walk and the model's.
-/
import Derived.Test.YtplchhahjmoodaaDoorNodes
import Derived.Test.YtplchhahjmoodaaDoorSpecHas
namespace Go.Proofs.YtplchhahjmoodaaDoor
open Go Go.RowKit

abbrev NBody := (List Int × List Int) × Int × Int
abbrev SBody := List NBody × List Int
def halfN (b : NBody) : Bool := decide (1 ∈ b.1.1) || decide (1 ∈ b.1.2) || b.2.1 == 1 || b.2.2 == 1
def definB (s : SBody) : Bool := !(s.1.any halfN) && !decide (1 ∈ s.2)
/-- The answer of the library's Index: not negative just where the number is there. -/
def FoundI (x : Int) (zs : List Int) (w : World) (e : Ending) (w' : World) : Prop := ∃ r : Int, e = .returned (.int .i64 r) ∧ (decide (0 ≤ r) = decide (x ∈ zs)) ∧ w' = w
theorem or4 {a b c d : Bool} {r : Bool} (h : (a || b || c || d) = r) : r = (a || b || c || d) := h.symm
/-- .. met by the walk over all nodes. -/
def HalfNone (ns : List Nd) (k : Nat) : Prop := ∀ y ∈ ns.take k, halfN y.body = false
theorem half_next {ns : List Nd} {k : Nat} (h : HalfNone ns k) (hk : k < ns.length) (hx : halfN ns[k].body = false) : HalfNone ns (k + 1) := by
  intro y hy
  rw [take_next ns k hk] at hy
  rcases List.mem_append.1 hy with hy | hy
  · exact h y hy
  · rw [List.mem_singleton.1 hy]
    exact hx
theorem half_some {ns : List Nd} {k : Nat} (hk : k < ns.length) (hx : halfN ns[k].body = true) : ns.any (fun y => halfN y.body) = true := List.any_eq_true.2 ⟨_, List.getElem_mem hk, hx⟩
theorem half_all {ns : List Nd} {k : Nat} (h : HalfNone ns k) (hk : ns.length ≤ k) : ns.any (fun y => halfN y.body) = false := by
  rw [List.any_eq_false]
  intro y hy
  have := h y (by rw [List.take_of_length_le hk]; exact hy)
  simp [this]
theorem definB_eq (x : St) : definB x.body = (!(x.ns.any fun y => halfN y.body) && !decide (1 ∈ x.zs)) := by
  unfold definB St.body
  rw [List.any_map]
  rfl
end Go.Proofs.YtplchhahjmoodaaDoor
