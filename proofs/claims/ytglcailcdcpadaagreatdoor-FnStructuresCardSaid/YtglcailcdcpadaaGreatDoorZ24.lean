/-
  The structure of a heap, in plain words. Nothing here knows of the program's text.
-/
import Derived.Test.YtglcailcdcpadaaGreatDoorZ18
import Derived.Test.YtglcailcdcpadaaGreatDoorZ10
namespace Go.Proofs.YtglcailcdcpadaaGreatDoor
open Go Go.RowKit

/-- The known truth value of a fact. -/
def l3 (b : Bool) : Int := if b then 2 else 0
theorem l3_isT (b : Bool) : isT (l3 b) = true := by cases b <;> decide
theorem l3_true : l3 true = 2 := rfl
theorem l3_false : l3 false = 0 := rfl
def pointS (vs : List Int) (i : Nat) : List Int := vs.map fun v => l3 (v == (i : Int))
def reachS (vs zs : List Int) (i : Nat) : List Int := vs.map fun v => l3 (decide ((i : Int) ∈ followed zs v))
def sharedS (zs : List Int) (i : Nat) : Int := l3 (decide (1 < (posFrom (i : Int) 0 zs).length))
def nodeOfS (vs zs : List Int) (i : Nat) : NBody := ((pointS vs i, reachS vs zs i), sharedS zs i, 0)
def nextRow (n : Nat) (z : Int) : List Int := (List.range n).map fun (j : Nat) => l3 (z == (j : Int))
def nodesOfS (vs zs : List Int) (k : Nat) : List NBody := (List.range k).map (nodeOfS vs zs)
def nextsOfS (zs : List Int) (k : Nat) : List Int := (zs.take k).flatMap (nextRow zs.length)
def heapStOk (vs zs : List Int) : Bool := goodH vs zs && decide (zs.length ≤ 10) && (decide (1 ≤ vs.length) && decide (vs.length ≤ 4))
/-- The structure of a heap. -/
def structB (vs zs : List Int) : SBody := if heapStOk vs zs = true then (nodesOfS vs zs zs.length, nextsOfS zs zs.length) else ([], [])
theorem nodesOfS_next (vs zs : List Int) (k : Nat) : nodesOfS vs zs (k + 1) = nodesOfS vs zs k ++ [nodeOfS vs zs k] := by simp [nodesOfS, List.range_succ]
theorem nextsOfS_next (zs : List Int) (k : Nat) (h : k < zs.length) : nextsOfS zs (k + 1) = nextsOfS zs k ++ nextRow zs.length zs[k] := by
  unfold nextsOfS
  rw [take_next zs k h, List.flatMap_append, List.flatMap_singleton]
theorem nextRow_length (n : Nat) (z : Int) : (nextRow n z).length = n := by simp [nextRow]
theorem nextRow_take (n : Nat) (z : Int) (k : Nat) (h : k < n) : (nextRow n z).take (k + 1) = (nextRow n z).take k ++ [l3 (z == (k : Int))] := by
  rw [take_next _ k (by rw [nextRow_length]; exact h)]
  simp [nextRow]
theorem nextsOfS_length (zs : List Int) : ∀ k, k ≤ zs.length → (nextsOfS zs k).length = k * zs.length := by
  intro k
  induction k with
  | zero => intro _; simp [nextsOfS]
  | succ k ih =>
    intro hk
    rw [nextsOfS_next zs k hk, List.length_append, ih (by omega), nextRow_length, Nat.add_mul, Nat.one_mul]
theorem structB_lens (vs zs : List Int) : ((structB vs zs).1.length = 0 ∧ (structB vs zs).2.length = 0) ∨ ((structB vs zs).1.length = zs.length ∧ (structB vs zs).2.length = zs.length * zs.length) := by
  unfold structB
  split
  · exact .inr ⟨by simp [nodesOfS], nextsOfS_length zs _ (Nat.le_refl _)⟩
  · exact .inl ⟨rfl, rfl⟩
theorem allT_map {α : Type} (l : List α) (f : α → Bool) : allT (l.map fun x => l3 (f x)) = true := by
  rw [allT, List.all_eq_true]
  intro x hx
  obtain ⟨y, _, rfl⟩ := List.mem_map.1 hx
  exact l3_isT _
theorem nodeOfS_ok (vs zs : List Int) (i : Nat) : ndB vs.length (nodeOfS vs zs i) = true := by
  have h1 : allT (nodeOfS vs zs i).1.1 = true := allT_map _ _
  have h2 : allT (nodeOfS vs zs i).1.2 = true := allT_map _ _
  have h3 : isT (nodeOfS vs zs i).2.1 = true := l3_isT _
  unfold ndB
  rw [h1, h2, h3]
  simp [nodeOfS, pointS, reachS]
theorem structB_ok (vs zs : List Int) (h : 1 ≤ vs.length ∧ vs.length ≤ 4) : stB vs.length (structB vs zs) = true := by
  have hd1 : decide ((1 : Int) ≤ (vs.length : Int)) = true := decide_eq_true (by omega)
  have hd2 : decide ((vs.length : Int) ≤ 4) = true := decide_eq_true (by omega)
  unfold structB
  split
  · rename_i hok
    unfold stB
    simp only [heapStOk, Bool.and_eq_true, decide_eq_true_eq] at hok
    have h1 : (nodesOfS vs zs zs.length).length = zs.length := by simp [nodesOfS]
    have h2 : pairsB zs.length (nextsOfS zs zs.length).length = true := decide_eq_true (nextsOfS_length zs _ (Nat.le_refl _))
    have h3 : (nodesOfS vs zs zs.length).all (ndB vs.length) = true := by
      rw [List.all_eq_true]
      intro x hx
      obtain ⟨i, _, rfl⟩ := List.mem_map.1 hx
      exact nodeOfS_ok vs zs i
    have h4 : allT (nextsOfS zs zs.length) = true := by
      rw [allT, List.all_eq_true]
      intro x hx
      obtain ⟨z, _, hx⟩ := List.mem_flatMap.1 hx
      obtain ⟨j, _, rfl⟩ := List.mem_map.1 hx
      exact l3_isT _
    rw [h1, h2, h3, h4, hd1, hd2, decide_eq_true hok.1.2]
    rfl
  · unfold stB
    rw [hd1, hd2]
    rfl
end Go.Proofs.YtglcailcdcpadaaGreatDoor
