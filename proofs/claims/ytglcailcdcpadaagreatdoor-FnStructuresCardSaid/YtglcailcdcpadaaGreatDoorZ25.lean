/-
  Abstraction, in plain words: predicates, names, groups, what a group becomes. Nothing here knows of the program's text.
-/
import Derived.Test.YtglcailcdcpadaaGreatDoorZ19
namespace Go.Proofs.YtglcailcdcpadaaGreatDoor
open Go Go.RowKit

def zeroB : NBody := (([], []), 0, 0)
def varsB (s : SBody) : Nat := (s.1.headD zeroB).1.1.length
def atB (l : List Int) (k : Int) : Int := if 0 ≤ k ∧ k < (l.length : Int) then l.getD k.toNat 1 else 1
/-- One of a node's values. -/
def predN (v : Nat) (b : NBody) (k : Int) : Int := if 0 ≤ k ∧ k < (v : Int) then atB b.1.1 k else if (v : Int) ≤ k ∧ k < 2 * (v : Int) then atB b.1.2 (k - v) else if k = 2 * (v : Int) then b.2.1 else 1
def predB (s : SBody) (k i : Int) : Int := if 0 ≤ i ∧ i < (s.1.length : Int) then predN (varsB s) (s.1.getD i.toNat zeroB) k else 1
def countB (s : SBody) : Nat := if s.1.length = 0 then 0 else 2 * varsB s + 1
def nameTo (s : SBody) (i : Int) (k : Nat) : ByteArray := valT ((List.range k).map fun (j : Nat) => predB s (j : Int) i)
def nameS (s : SBody) (i : Int) : ByteArray := if 0 ≤ i ∧ i < (s.1.length : Int) then nameTo s i (countB s) else ⟨#[]⟩
theorem nameTo_next (s : SBody) (i : Int) (k : Nat) : nameTo s i (k + 1) = nameTo s i k ++ textT (predB s (k : Int) i) := by
  unfold nameTo valT
  rw [List.range_succ, List.map_append, List.foldl_append]
  rfl
theorem nameTo_size (s : SBody) (i : Int) (k : Nat) : (nameTo s i k).size ≤ k := by
  have := valT_size ((List.range k).map fun (j : Nat) => predB s (j : Int) i)
  simpa [nameTo] using this
abbrev Grp := ByteArray × List Int
/-- Is a name ahead of another one? -/
def ahead (a b : ByteArray) : Bool := Op.bytesLess a.toList b.toList
/-- One node more, among the groups of those before it. -/
def insG (nm : ByteArray) (i : Int) : List Grp → List Grp
  | [] => [(nm, [i])]
  | (m, g) :: r => if ahead m nm = true then (m, g) :: insG nm i r else if m = nm then (m, g ++ [i]) :: r else (nm, [i]) :: (m, g) :: r
def groupsTo (s : SBody) : Nat → List Grp
  | 0 => []
  | k + 1 => insG (nameS s (k : Int)) (k : Int) (groupsTo s k)
def groupsB (s : SBody) : List (List Int) := (groupsTo s s.1.length).map Prod.snd
/-- How many names lie ahead, from the start on. -/
def placeG (nm : ByteArray) : List Grp → Nat
  | [] => 0
  | (m, _) :: r => if ahead m nm = true then placeG nm r + 1 else 0
theorem placeG_le (nm : ByteArray) : ∀ L : List Grp, placeG nm L ≤ L.length
  | [] => Nat.le_refl _
  | (m, g) :: r => by
    have := placeG_le nm r
    simp only [placeG, List.length_cons]
    split <;> omega
theorem placeG_lt (nm : ByteArray) : ∀ (L : List Grp) (j : Nat) (h : j < L.length), j < placeG nm L → ahead L[j].1 nm = true
  | (m, g) :: r, 0, h, hj => by
    simp only [placeG] at hj
    split at hj
    · assumption
    · omega
  | (m, g) :: r, j + 1, h, hj => by
    simp only [placeG] at hj
    split at hj
    · exact placeG_lt nm r j (by simpa using h) (by omega)
    · omega
theorem placeG_at (nm : ByteArray) : ∀ (L : List Grp) (h : placeG nm L < L.length), ahead L[placeG nm L].1 nm = false
  | (m, g) :: r, h => by
    by_cases ha : ahead m nm = true
    · simp only [placeG, ha, if_true, List.length_cons] at h ⊢
      exact placeG_at nm r (by omega)
    · simp only [placeG, if_neg ha]
      simpa using ha
theorem insG_meet (nm : ByteArray) (i : Int) : ∀ (L : List Grp) (h : placeG nm L < L.length), L[placeG nm L].1 = nm → insG nm i L = L.set (placeG nm L) (nm, L[placeG nm L].2 ++ [i])
  | (m, g) :: r, h, e => by
    by_cases ha : ahead m nm = true
    · simp only [placeG, ha, if_true, List.length_cons, List.getElem_cons_succ] at h e ⊢
      rw [insG, if_pos ha, insG_meet nm i r (by omega) e]
      rfl
    · simp only [placeG, if_neg ha, List.getElem_cons_zero] at e ⊢
      rw [insG, if_neg ha, if_pos e, e]
      rfl
theorem insG_new (nm : ByteArray) (i : Int) : ∀ (L : List Grp), (∀ h : placeG nm L < L.length, ¬ L[placeG nm L].1 = nm) → insG nm i L = L.take (placeG nm L) ++ (nm, [i]) :: L.drop (placeG nm L)
  | [], _ => rfl
  | (m, g) :: r, e => by
    by_cases ha : ahead m nm = true
    · simp only [placeG, ha, if_true, List.length_cons, List.getElem_cons_succ] at e ⊢
      rw [insG, if_pos ha, insG_new nm i r fun h => e (by omega)]
      rfl
    · simp only [placeG, if_neg ha, List.getElem_cons_zero, List.length_cons] at e ⊢
      rw [insG, if_neg ha, if_neg (e (by omega))]
      rfl
/-- What groups of the first n nodes keep to. -/
structure GrpOk (n : Nat) (L : List Grp) : Prop where
  len : L.length ≤ n
  each : ∀ g ∈ L, 0 < g.2.length ∧ g.2.length ≤ n ∧ ∀ i ∈ g.2, 0 ≤ i ∧ i < (n : Int)
theorem GrpOk.ins {n : Nat} {L : List Grp} (h : GrpOk n L) (nm : ByteArray) : GrpOk (n + 1) (insG nm (n : Int) L) := by
  have up : ∀ g ∈ L, 0 < g.2.length ∧ g.2.length ≤ n + 1 ∧ ∀ i ∈ g.2, 0 ≤ i ∧ i < ((n + 1 : Nat) : Int) := fun g hg => by
    obtain ⟨h1, h2, h3⟩ := h.each g hg
    exact ⟨h1, by omega, fun i hi => by have := h3 i hi; omega⟩
  by_cases hm : ∃ h : placeG nm L < L.length, L[placeG nm L].1 = nm
  · obtain ⟨hl, he⟩ := hm
    rw [insG_meet nm _ L hl he]
    refine ⟨by rw [List.length_set]; have := h.len; omega, fun g hg => ?_⟩
    rcases List.mem_or_eq_of_mem_set hg with hg | rfl
    · exact up g hg
    · obtain ⟨h1, h2, h3⟩ := h.each _ (List.getElem_mem hl)
      refine ⟨by simp, by simp; omega, fun i hi => ?_⟩
      rcases List.mem_append.1 hi with hi | hi
      · have := h3 i hi; omega
      · rw [List.mem_singleton.1 hi]; omega
  · rw [insG_new nm _ L fun hl he => hm ⟨hl, he⟩]
    refine ⟨by simp only [List.length_append, List.length_take, List.length_cons, List.length_drop]; have := h.len; omega, fun g hg => ?_⟩
    rcases List.mem_append.1 hg with hg | hg
    · exact up g (List.mem_of_mem_take hg)
    · rcases List.mem_cons.1 hg with rfl | hg
      · exact ⟨by simp, by simp, fun i hi => by rw [List.mem_singleton.1 hi]; omega⟩
      · exact up g (List.mem_of_mem_drop hg)
theorem groupsTo_ok (s : SBody) : ∀ n, GrpOk n (groupsTo s n)
  | 0 => ⟨Nat.le_refl _, fun g hg => by simp [groupsTo] at hg⟩
  | n + 1 => (groupsTo_ok s n).ins _
/-- The node that a group becomes. -/
def groupN (s : SBody) (g : List Int) : NBody :=
  let x := s.1.getD (g.headD 0).toNat zeroB
  (x.1, x.2.1, if 1 < g.length ∨ g.any (fun i => (s.1.getD i.toNat zeroB).2.2 != 0) = true then 1 else x.2.2)
/-- The joined value between two groups. -/
def joinTo (s : SBody) (a b : List Int) : Int := a.foldl (fun o i => b.foldl (fun o j => joinT o (nextB s i j)) o) (nextB s (a.headD 0) (b.headD 0))
def blurB (s : SBody) : SBody :=
  if s.1.length = 0 then ([], []) else if stB (varsB s) s = true then ((groupsB s).map (groupN s), (groupsB s).flatMap fun a => (groupsB s).map fun b => joinTo s a b) else s
end Go.Proofs.YtglcailcdcpadaaGreatDoor
