/-
  Cells that are met by following: what a heap is, in plain words: chains, the order in which cells are met, new numbers. Nothing here knows of the program.
-/
import Derived.Test.YtglcailcdcpadaaGreatDoorZ03
namespace Go.Proofs.YtglcailcdcpadaaGreatDoor
open Go Go.RowKit

/-- Is the number a cell? -/
def isC (zs : List Int) (c : Int) : Bool := decide (0 ≤ c) && decide (c < (zs.length : Int))
def nextC (zs : List Int) (c : Int) : Int := zs.getD c.toNat (-1)
theorem isC_iff {zs : List Int} {c : Int} : isC zs c = true ↔ 0 ≤ c ∧ c < (zs.length : Int) := by simp [isC]
theorem nextC_at {zs : List Int} {k : Nat} (h : k < zs.length) : nextC zs (k : Int) = zs[k] := by simp [nextC, h]
theorem isC_nat {zs : List Int} {c : Int} (h : isC zs c = true) : ∃ k : Nat, c = (k : Int) ∧ k < zs.length := by
  have := isC_iff.1 h
  exact ⟨c.toNat, by omega, by omega⟩
theorem isC_of {zs : List Int} {k : Nat} (h : k < zs.length) : isC zs (k : Int) = true := isC_iff.2 ⟨by omega, by omega⟩
theorem isC_minus (zs : List Int) : isC zs (-1) = false := by simp [isC]

/-- The cells met from c on, one after the other, n at most. -/
def chain (zs : List Int) : Nat → Int → List Int
  | 0, _ => []
  | n + 1, c => if isC zs c = true then c :: chain zs n (nextC zs c) else []
/-- Does the way from c end at what is neither a cell nor null? -/
def badEnd (zs : List Int) : Nat → Int → Bool
  | 0, c => decide (c ≠ -1) && !isC zs c
  | n + 1, c => if isC zs c = true then badEnd zs n (nextC zs c) else decide (c ≠ -1)
/-- Laid behind what is there, each once. -/
def addAll : List Int → List Int → List Int
  | o, [] => o
  | o, c :: cs => addAll (if c ∈ o then o else o ++ [c]) cs

theorem addAll_append (o a b : List Int) : addAll o (a ++ b) = addAll (addAll o a) b := by
  induction a generalizing o with
  | nil => rfl
  | cons x xs ih => simp only [List.cons_append, addAll]; exact ih _
theorem addAll_mem {x : Int} : ∀ {cs o : List Int}, x ∈ addAll o cs ↔ x ∈ o ∨ x ∈ cs
  | [], o => by simp [addAll]
  | c :: cs, o => by
    simp only [addAll]
    rw [addAll_mem]
    by_cases h : c ∈ o
    · simp only [h, if_true, List.mem_cons]
      constructor
      · rintro (h1 | h1)
        · exact .inl h1
        · exact .inr (.inr h1)
      · rintro (h1 | rfl | h1)
        · exact .inl h1
        · exact .inl h
        · exact .inr h1
    · simp [h, or_assoc]
theorem addAll_sub : ∀ {cs o : List Int}, (∀ x ∈ cs, x ∈ o) → addAll o cs = o
  | [], _, _ => rfl
  | c :: cs, o, h => by
    simp only [addAll, h c (by simp), if_true]
    exact addAll_sub fun x hx => h x (by simp [hx])
theorem nodup_snoc {o : List Int} {c : Int} (h : o.Nodup) (hno : c ∉ o) : (o ++ [c]).Nodup := by
  rw [List.nodup_append]
  exact ⟨h, by simp, fun a ha b hb => by simp at hb; subst hb; exact fun e => hno (e ▸ ha)⟩
theorem addAll_nodup : ∀ {cs o : List Int}, o.Nodup → (addAll o cs).Nodup
  | [], _, h => h
  | c :: cs, o, h => by
    simp only [addAll]
    refine addAll_nodup ?_
    split
    · exact h
    · rename_i hc
      exact nodup_snoc h hc
/-- Laying a list behind, after having laid it behind nothing: the same. -/
theorem addAll_addAll (o : List Int) : ∀ (cs a : List Int), addAll o (addAll a cs) = addAll (addAll o a) cs
  | [], a => rfl
  | c :: cs, a => by
    simp only [addAll]
    rw [addAll_addAll o cs]
    congr 1
    by_cases h : c ∈ a
    · rw [if_pos h, if_pos (addAll_mem.2 (.inr h))]
    · rw [if_neg h, addAll_append]
      rfl
theorem addAll_map {f : Int → Int} : ∀ {cs o : List Int}, (∀ x y, (x ∈ o ∨ x ∈ cs) → (y ∈ o ∨ y ∈ cs) → f x = f y → x = y) → addAll (o.map f) (cs.map f) = (addAll o cs).map f
  | [], _, _ => rfl
  | c :: cs, o, h => by
    simp only [List.map_cons, addAll]
    by_cases hc : c ∈ o
    · rw [if_pos hc, if_pos (List.mem_map.2 ⟨c, hc, rfl⟩)]
      exact addAll_map fun x y hx hy => h x y (hx.imp id (by simp +contextual)) (hy.imp id (by simp +contextual))
    · have hno : f c ∉ o.map f := fun hm => by
        obtain ⟨y, hy, e⟩ := List.mem_map.1 hm
        exact hc (h y c (.inl hy) (.inr (by simp)) e ▸ hy)
      rw [if_neg hc, if_neg hno]
      have : o.map f ++ [f c] = (o ++ [c]).map f := by simp
      rw [this]
      refine addAll_map fun x y hx hy => h x y ?_ ?_
      · rcases hx with hx | hx
        · rcases List.mem_append.1 hx with hx | hx
          · exact .inl hx
          · exact .inr (by simp at hx; simp [hx])
        · exact .inr (by simp [hx])
      · rcases hy with hx | hx
        · rcases List.mem_append.1 hx with hx | hx
          · exact .inl hx
          · exact .inr (by simp at hx; simp [hx])
        · exact .inr (by simp [hx])

theorem chain_cells {zs : List Int} : ∀ {n : Nat} {c x : Int}, x ∈ chain zs n c → isC zs x = true
  | 0, _, _, h => by simp [chain] at h
  | n + 1, c, x, h => by
    simp only [chain] at h
    split at h
    · rename_i hc
      rcases List.mem_cons.1 h with rfl | h
      · exact hc
      · exact chain_cells h
    · simp at h
/-- What holds at the first cell and goes on from cell to next cell holds all along. -/
theorem chain_all {zs : List Int} {Q : Int → Prop} (hq : ∀ x, isC zs x = true → Q x → isC zs (nextC zs x) = true → Q (nextC zs x)) : ∀ {n : Nat} {c x : Int}, (isC zs c = true → Q c) → x ∈ chain zs n c → Q x
  | 0, _, _, _, h => by simp [chain] at h
  | n + 1, c, x, h0, h => by
    simp only [chain] at h
    split at h
    · rename_i hc
      rcases List.mem_cons.1 h with rfl | h
      · exact h0 hc
      · exact chain_all hq (fun hn => hq c hc (h0 hc) hn) h
    · simp at h

theorem nodup_sub_length : ∀ {a b : List Int}, a.Nodup → (∀ x ∈ a, x ∈ b) → a.length ≤ b.length
  | [], _, _, _ => by simp
  | x :: a, b, hn, h => by
    have hx : x ∈ b := h x (by simp)
    have h1 := nodup_sub_length (a := a) (b := b.erase x) (List.nodup_cons.1 hn).2 (fun y hy => by
      have hne : y ≠ x := fun e => (List.nodup_cons.1 hn).1 (e ▸ hy)
      exact (List.mem_erase_of_ne hne).2 (h y (by simp [hy])))
    rw [List.length_erase_of_mem hx] at h1
    have := List.length_pos_of_mem hx
    simp only [List.length_cons]
    omega
/-- The numbers below n. -/
def upTo (n : Nat) : List Int := (List.range n).map fun (i : Nat) => (i : Int)
theorem upTo_length (n : Nat) : (upTo n).length = n := by simp [upTo]
theorem upTo_at {n k : Nat} (_ : k < n) (h' : k < (upTo n).length) : (upTo n)[k] = (k : Int) := by simp [upTo]
theorem upTo_mem {n : Nat} {x : Int} : x ∈ upTo n ↔ 0 ≤ x ∧ x < (n : Int) := by
  simp only [upTo, List.mem_map, List.mem_range]
  constructor
  · rintro ⟨k, hk, rfl⟩
    omega
  · intro h
    exact ⟨x.toNat, by omega, by omega⟩
theorem upTo_nodup (n : Nat) : (upTo n).Nodup := by
  unfold upTo
  rw [List.nodup_iff_pairwise_ne, List.pairwise_map]
  exact (List.nodup_iff_pairwise_ne.1 List.nodup_range).imp fun h e => h (by omega)
theorem nodup_cells {zs : List Int} {o : List Int} (hn : o.Nodup) (hc : ∀ x ∈ o, isC zs x = true) : o.length ≤ zs.length := by
  have := nodup_sub_length (b := upTo zs.length) hn fun x hx => upTo_mem.2 (isC_iff.1 (hc x hx))
  rwa [upTo_length] at this
theorem nodup_room {S o : List Int} {c : Int} (hn : o.Nodup) (hc : ∀ x ∈ o, x ∈ S) (h : c ∈ S) (hno : c ∉ o) : o.length < S.length := by
  have := nodup_sub_length (a := c :: o) (b := S) (List.nodup_cons.2 ⟨hno, hn⟩) (fun x hx => by rcases List.mem_cons.1 hx with rfl | hx; exact h; exact hc x hx)
  simpa [Nat.succ_le_iff] using this

/-- From each cell on, what follows is there too. -/
def closedO (zs o : List Int) : Prop := ∀ x ∈ o, isC zs (nextC zs x) = true → nextC zs x ∈ o
/-- .. or is c, which is looked at next. -/
def closedTo (zs o : List Int) (c : Int) : Prop := ∀ x ∈ o, isC zs (nextC zs x) = true → nextC zs x ∈ o ∨ nextC zs x = c
structure OrdOk (zs o : List Int) : Prop where
  nodup : o.Nodup
  cells : ∀ x ∈ o, isC zs x = true
theorem OrdOk.nil_ {zs : List Int} : OrdOk zs [] := ⟨by simp, by simp⟩
theorem OrdOk.len {zs o : List Int} (h : OrdOk zs o) : o.length ≤ zs.length := nodup_cells h.nodup h.cells
theorem OrdOk.snoc {zs o : List Int} {c : Int} (h : OrdOk zs o) (hc : isC zs c = true) (hno : c ∉ o) : OrdOk zs (o ++ [c]) := by
  refine ⟨nodup_snoc h.nodup hno, fun x hx => ?_⟩
  rcases List.mem_append.1 hx with hx | hx
  · exact h.cells x hx
  · simp at hx; subst hx; exact hc
theorem OrdOk.addAll {zs o cs : List Int} (h : OrdOk zs o) (hc : ∀ x ∈ cs, isC zs x = true) : OrdOk zs (addAll o cs) :=
  ⟨addAll_nodup h.nodup, fun x hx => by rcases addAll_mem.1 hx with hx | hx; exact h.cells x hx; exact hc x hx⟩
theorem OrdOk.room {zs o : List Int} {c : Int} (h : OrdOk zs o) (hc : isC zs c = true) (hno : c ∉ o) : o.length < zs.length := by
  have := nodup_room (S := upTo zs.length) h.nodup (fun x hx => upTo_mem.2 (isC_iff.1 (h.cells x hx))) (upTo_mem.2 (isC_iff.1 hc)) hno
  rwa [upTo_length] at this

theorem closedO.to {zs o : List Int} {c : Int} (h : closedO zs o) : closedTo zs o c := fun x hx hn => .inl (h x hx hn)
theorem closedTo_here {zs o : List Int} {c : Int} (h : closedTo zs o c) (hc : c ∈ o) : closedO zs o := fun x hx hn => by
  rcases h x hx hn with h | h
  · exact h
  · rw [h]; exact hc
theorem closedTo_step {zs o : List Int} {c : Int} (h : closedTo zs o c) : closedTo zs (o ++ [c]) (nextC zs c) := fun x hx hn => by
  rcases List.mem_append.1 hx with hx | hx
  · rcases h x hx hn with h | h
    · exact .inl (by simp [h])
    · exact .inl (by simp [h])
  · simp at hx
    subst hx
    exact .inr rfl
theorem closedTo_stop {zs o : List Int} {c : Int} (h : closedTo zs o c) (hc : isC zs c = false) : closedO zs o := fun x hx hn => by
  rcases h x hx hn with h | h
  · exact h
  · rw [h, hc] at hn; cases hn

theorem chain_in {zs o : List Int} (h : closedO zs o) {n : Nat} {c x : Int} (hc : isC zs c = true → c ∈ o) (hx : x ∈ chain zs n c) : x ∈ o := chain_all (Q := fun x => x ∈ o) (fun y _ hy hn => h y hy hn) hc hx
theorem badEnd_no {zs : List Int} : ∀ {n : Nat} {c : Int}, isC zs c = false → badEnd zs n c = decide (c ≠ -1)
  | 0, c, h => by simp [badEnd, h]
  | n + 1, c, h => by simp [badEnd, h]
theorem chain_no {zs : List Int} : ∀ {n : Nat} {c : Int}, isC zs c = false → chain zs n c = []
  | 0, c, h => rfl
  | n + 1, c, h => by simp [chain, h]

/-- How many steps are allowed makes no odds, once they are enough. -/
theorem fuel_free {zs S : List Int} (hS : closedO zs S) : ∀ {n m : Nat} {o : List Int} {c : Int}, o.Nodup → (∀ x ∈ o, x ∈ S) → closedTo zs o c → (isC zs c = true → c ∈ S) → S.length ≤ o.length + n → S.length ≤ o.length + m → addAll o (chain zs n c) = addAll o (chain zs m c) := by
  intro n
  induction n with
  | zero =>
    intro m o c hn ho ht hc h1 _
    by_cases hi : isC zs c = true
    · have hco : c ∈ o := Classical.byContradiction fun hno => by have := nodup_room hn ho (hc hi) hno; omega
      have hcl := closedTo_here ht hco
      exact (addAll_sub fun x hx => chain_in hcl (fun _ => hco) hx).symm
    · simp only [Bool.not_eq_true] at hi
      rw [chain_no hi, chain_no hi]
  | succ n ih =>
    intro m o c hn ho ht hc h1 h2
    by_cases hi : isC zs c = true
    · by_cases hco : c ∈ o
      · have hcl := closedTo_here ht hco
        rw [addAll_sub fun x hx => chain_in hcl (fun _ => hco) hx, addAll_sub fun x hx => chain_in hcl (fun _ => hco) hx]
      · have hr := nodup_room hn ho (hc hi) hco
        obtain ⟨m, rfl⟩ : ∃ k, m = k + 1 := ⟨m - 1, by omega⟩
        simp only [chain, hi, if_true, addAll, hco, if_false]
        refine ih (nodup_snoc hn hco) (fun x hx => ?_) (closedTo_step ht) (fun hx => hS c (hc hi) hx) (by simp; omega) (by simp; omega)
        rcases List.mem_append.1 hx with hx | hx
        · exact ho x hx
        · simp at hx; subst hx; exact hc hi
    · simp only [Bool.not_eq_true] at hi
      rw [chain_no hi, chain_no hi]

/-- Elements that are cells or null. -/
def goodB (zs l : List Int) : Bool := l.all fun x => decide (x = -1) || isC zs x
theorem goodB_at {zs l : List Int} (h : goodB zs l = true) {x : Int} (hx : x ∈ l) : x = -1 ∨ isC zs x = true := by
  have := List.all_eq_true.1 h x hx
  simpa using this
theorem goodB_bad {zs l : List Int} {k : Nat} (h : k < l.length) (h1 : l[k] ≠ -1) (h2 : isC zs l[k] = false) : goodB zs l = false := by
  rw [goodB, List.all_eq_false]
  exact ⟨l[k], List.getElem_mem h, by simp [h1, h2]⟩
theorem goodB_next {zs l : List Int} {k : Nat} (h : k < l.length) (ha : goodB zs (l.take k) = true) (hk : l[k] = -1 ∨ isC zs l[k] = true) : goodB zs (l.take (k + 1)) = true := by
  rw [goodB, take_next l k h, List.all_append]
  rw [goodB] at ha
  rw [ha]
  rcases hk with hk | hk <;> simp [hk]
theorem nextC_good {zs : List Int} (h : goodB zs zs = true) {c : Int} (hc : isC zs c = true) : nextC zs c = -1 ∨ isC zs (nextC zs c) = true := by
  obtain ⟨k, rfl, hk⟩ := isC_nat hc
  rw [nextC_at hk]
  exact goodB_at h (List.getElem_mem hk)
theorem badEnd_good {zs : List Int} (h : goodB zs zs = true) : ∀ {n : Nat} {c : Int}, c = -1 ∨ isC zs c = true → badEnd zs n c = false
  | 0, c, hc => by
    rcases hc with rfl | hc
    · simp [badEnd]
    · simp [badEnd, hc]
  | n + 1, c, hc => by
    simp only [badEnd]
    split
    · rename_i hi
      exact badEnd_good h (nextC_good h hi)
    · rename_i hi
      rcases hc with rfl | hc
      · simp
      · exact absurd hc hi
/-- A cell whose next one is wrong, met on the way: the way ends badly. -/
theorem badEnd_met {zs : List Int} {x : Int} (h1 : nextC zs x ≠ -1) (h2 : isC zs (nextC zs x) = false) : ∀ {n : Nat} {c : Int}, x ∈ chain zs n c → badEnd zs n c = true
  | 0, _, h => by simp [chain] at h
  | n + 1, c, h => by
    simp only [chain] at h
    split at h
    · rename_i hc
      simp only [badEnd, hc, if_true]
      rcases List.mem_cons.1 h with rfl | h
      · rw [badEnd_no h2]; simpa using h1
      · exact badEnd_met h1 h2 h
    · simp at h

/-- The walk from a cell: what is there, and where it stands; the last words stay the same. -/
structure Going (zs o0 : List Int) (c0 : Int) (o : List Int) (c : Int) (n : Nat) : Prop where
  ok : OrdOk zs o
  to : closedTo zs o c
  room : zs.length ≤ o.length + n
  all : addAll o (chain zs n c) = addAll o0 (chain zs zs.length c0)
  ring : o0 = [] → ∀ x ∈ o, nextC zs x ∈ o ∨ nextC zs x = c
  bad : badEnd zs n c = badEnd zs zs.length c0
theorem Going.start {zs o : List Int} {c : Int} (h : OrdOk zs o) (hc : closedO zs o) : Going zs o c o c zs.length := ⟨h, hc.to, by omega, rfl, (fun e x hx => by subst e; simp at hx), rfl⟩
theorem Going.step {zs o0 o : List Int} {c0 c : Int} {n : Nat} (h : Going zs o0 c0 o c n) (hc : isC zs c = true) (hno : c ∉ o) : ∃ m, n = m + 1 ∧ Going zs o0 c0 (o ++ [c]) (nextC zs c) m := by
  have hr := h.ok.room hc hno
  have := h.room
  obtain ⟨m, rfl⟩ : ∃ m, n = m + 1 := ⟨n - 1, by omega⟩
  refine ⟨m, rfl, h.ok.snoc hc hno, closedTo_step h.to, by simp; omega, ?_, fun e x hx => ?_, ?_⟩
  · rw [← h.all]
    simp [chain, hc, addAll, hno]
  · rcases List.mem_append.1 hx with hx | hx
    · rcases h.ring e x hx with h | h
      · exact .inl (by simp [h])
      · exact .inl (by simp [h])
    · simp at hx
      subst hx
      exact .inr rfl
  · rw [← h.bad]
    simp [badEnd, hc]
theorem ring_good {zs o : List Int} (ho : ∀ x ∈ o, isC zs x = true) (h : ∀ x ∈ o, nextC zs x ∈ o) : ∀ {n : Nat} {c : Int}, c ∈ o → badEnd zs n c = false
  | 0, c, hc => by simp [badEnd, ho c hc]
  | n + 1, c, hc => by
    simp only [badEnd, ho c hc, if_true]
    exact ring_good ho h (h c hc)
theorem Going.stop {zs o0 o : List Int} {c0 c : Int} {n : Nat} (h : Going zs o0 c0 o c n) (hs : isC zs c = false ∨ c ∈ o) :
    addAll o0 (chain zs zs.length c0) = o ∧ closedO zs o ∧ (o0 = [] → (decide (c ≠ -1) && !isC zs c) = badEnd zs zs.length c0) := by
  rcases hs with hs | hs
  · exact ⟨by rw [← h.all, chain_no hs]; rfl, closedTo_stop h.to hs, fun _ => by rw [← h.bad, badEnd_no hs, hs]; simp⟩
  · have hcl := closedTo_here h.to hs
    refine ⟨by rw [← h.all, addAll_sub fun x hx => chain_in hcl (fun _ => hs) hx], hcl, fun e => ?_⟩
    rw [← h.bad, h.ok.cells c hs, ring_good h.ok.cells (fun x hx => by rcases h.ring e x hx with h1 | h1; exact h1; rw [h1]; exact hs) hs]
    simp
theorem Going.closed {zs o0 : List Int} {c0 : Int} : ∀ {n : Nat} {o : List Int} {c : Int}, Going zs o0 c0 o c n → closedO zs (addAll o0 (chain zs zs.length c0))
  | n, o, c, h => by
    by_cases hs : isC zs c = false ∨ c ∈ o
    · rw [(h.stop hs).1]
      exact (h.stop hs).2.1
    · simp only [not_or, Bool.not_eq_false] at hs
      obtain ⟨m, rfl, h'⟩ := h.step hs.1 hs.2
      exact h'.closed
  termination_by n => n

/-- The cells that are met from c on; none where the way ends badly. -/
def followed (zs : List Int) (c : Int) : List Int := if badEnd zs zs.length c = true then [] else addAll [] (chain zs zs.length c)
theorem followed_ok (zs : List Int) (c : Int) : OrdOk zs (followed zs c) := by
  unfold followed
  split
  · exact OrdOk.nil_
  · exact OrdOk.nil_.addAll fun x hx => chain_cells hx
/-- The cells in the order in which they are met from the variables on. -/
def orderFrom (zs : List Int) : List Int → List Int → List Int
  | o, [] => o
  | o, v :: vs => orderFrom zs (addAll o (chain zs zs.length v)) vs
def order (vs zs : List Int) : List Int := orderFrom zs [] vs
def orderS (zs : List Int) : List Int → List Int → List Int
  | o, [] => o
  | o, v :: vs => orderS zs (addAll o (followed zs v)) vs

structure OrdEnd (zs o : List Int) : Prop extends OrdOk zs o where
  closed : closedO zs o
theorem OrdEnd.nil_ {zs : List Int} : OrdEnd zs [] := ⟨OrdOk.nil_, fun _ hx => by simp at hx⟩
theorem OrdEnd.next {zs o : List Int} (h : OrdEnd zs o) (c : Int) : OrdEnd zs (addAll o (chain zs zs.length c)) :=
  ⟨h.toOrdOk.addAll fun _ hx => chain_cells hx, (Going.start h.toOrdOk h.closed).closed⟩
theorem orderFrom_end {zs : List Int} : ∀ {vs o : List Int}, OrdEnd zs o → OrdEnd zs (orderFrom zs o vs)
  | [], _, h => h
  | v :: vs, _, h => orderFrom_end (vs := vs) (h.next v)
theorem order_end (vs zs : List Int) : OrdEnd zs (order vs zs) := orderFrom_end OrdEnd.nil_
theorem orderFrom_mono {zs : List Int} {x : Int} : ∀ {vs o : List Int}, x ∈ o → x ∈ orderFrom zs o vs
  | [], _, h => h
  | _ :: vs, _, h => orderFrom_mono (vs := vs) (addAll_mem.2 (.inl h))
theorem chain_here {zs : List Int} {c : Int} (h : isC zs c = true) : c ∈ chain zs zs.length c := by
  obtain ⟨k, rfl, hk⟩ := isC_nat h
  obtain ⟨n, hn⟩ : ∃ n, zs.length = n + 1 := ⟨zs.length - 1, by omega⟩
  rw [hn]
  simp [chain, h]
theorem orderFrom_vars {zs : List Int} {v : Int} (hv : isC zs v = true) : ∀ {vs o : List Int}, v ∈ vs → v ∈ orderFrom zs o vs
  | [], _, h => by simp at h
  | w :: vs, o, h => by
    rcases List.mem_cons.1 h with rfl | h
    · exact orderFrom_mono (vs := vs) (addAll_mem.2 (.inr (chain_here hv)))
    · exact orderFrom_vars hv (vs := vs) h
theorem order_vars {vs zs : List Int} {v : Int} (hv : isC zs v = true) (h : v ∈ vs) : v ∈ order vs zs := orderFrom_vars hv h
/-- What holds of the variables' cells and goes on from cell to next cell holds of all that are met. -/
theorem orderFrom_all {zs : List Int} {Q : Int → Prop} (hq : ∀ x, isC zs x = true → Q x → isC zs (nextC zs x) = true → Q (nextC zs x)) : ∀ {vs o : List Int}, (∀ x ∈ o, Q x) → (∀ v ∈ vs, isC zs v = true → Q v) → ∀ x ∈ orderFrom zs o vs, Q x
  | [], _, ho, _ => ho
  | v :: vs, o, ho, hv => orderFrom_all (vs := vs) hq (fun x hx => by
      rcases addAll_mem.1 hx with hx | hx
      · exact ho x hx
      · exact chain_all hq (fun h => hv v (by simp) h) hx) (fun w hw => hv w (by simp [hw]))
theorem followed_good {zs : List Int} (h : goodB zs zs = true) {c : Int} (hc : c = -1 ∨ isC zs c = true) : followed zs c = addAll [] (chain zs zs.length c) := by
  rw [followed, badEnd_good h hc]
  rfl
theorem addAll_followed {zs : List Int} (h : goodB zs zs = true) (o : List Int) (v : Int) : addAll o (followed zs v) = addAll o (chain zs zs.length v) := by
  by_cases hc : v = -1 ∨ isC zs v = true
  · rw [followed_good h hc, addAll_addAll]
    rfl
  · simp only [not_or, Bool.not_eq_true] at hc
    rw [chain_no hc.2, followed, badEnd_no hc.2]
    simp [hc.1]
theorem orderS_good {zs : List Int} (h : goodB zs zs = true) : ∀ {vs o : List Int}, orderS zs o vs = orderFrom zs o vs
  | [], _ => rfl
  | v :: vs, o => by
    rw [orderS, orderFrom, addAll_followed h]
    exact orderS_good h
theorem orderS_ok {zs : List Int} : ∀ {vs o : List Int}, OrdOk zs o → OrdOk zs (orderS zs o vs)
  | [], _, h => h
  | v :: vs, _, h => orderS_ok (vs := vs) (h.addAll (followed_ok zs v).cells)
theorem orderS_all {zs : List Int} {Q : Int → Prop} (hq : ∀ v, ∀ x ∈ followed zs v, Q x) : ∀ {vs o : List Int}, (∀ x ∈ o, Q x) → ∀ x ∈ orderS zs o vs, Q x
  | [], _, ho => ho
  | v :: vs, o, ho => orderS_all (vs := vs) hq (fun x hx => by
      rcases addAll_mem.1 hx with hx | hx
      · exact ho x hx
      · exact hq v x hx)

/-- Is there a cell that no variable reaches? -/
def leakB (vs zs : List Int) : Bool := decide ((orderS zs [] vs).length < zs.length)
theorem leak_bad {vs zs : List Int} (h : goodB zs zs = false) : leakB vs zs = true := by
  rw [goodB, List.all_eq_false] at h
  obtain ⟨y, hy, hb⟩ := h
  simp at hb
  obtain ⟨k, hk, rfl⟩ := List.getElem_of_mem hy
  have hx : ((k : Int)) ∉ orderS zs [] vs := fun hm => by
    refine orderS_all (Q := fun x => x ≠ (k : Int)) (fun v x hx e => ?_) (by simp) _ hm rfl
    subst e
    unfold followed at hx
    split at hx
    · simp at hx
    · rename_i hbe
      rcases addAll_mem.1 hx with hx | hx
      · simp at hx
      · exact hbe (badEnd_met (by rw [nextC_at hk]; exact hb.1) (by rw [nextC_at hk]; exact hb.2) hx)
  have := (orderS_ok (vs := vs) OrdOk.nil_).room (isC_of hk) hx
  simpa [leakB] using this
theorem leak_good {vs zs : List Int} (h : goodB zs zs = true) : leakB vs zs = decide ((order vs zs).length < zs.length) := by
  rw [leakB, orderS_good h]
  rfl

/-- The new number of a cell. -/
def num (o : List Int) (c : Int) : Int := (posFrom c 0 o).headD (-1)
theorem posFrom_append (n : Int) : ∀ (a b : List Int) (k : Nat), posFrom n k (a ++ b) = posFrom n k a ++ posFrom n (k + a.length) b
  | [], b, k => by simp [posFrom]
  | x :: a, b, k => by
    simp only [List.cons_append, posFrom, List.length_cons]
    rw [posFrom_append n a b (k + 1), show k + 1 + a.length = k + (a.length + 1) by omega]
    split <;> simp
theorem num_not {o : List Int} {c : Int} (h : c ∉ o) : num o c = -1 := by rw [num, posFrom_none h]; rfl
theorem num_snoc_new {o : List Int} {c : Int} (h : c ∉ o) : num (o ++ [c]) c = (o.length : Int) := by
  rw [num, posFrom_append, posFrom_none h]
  simp [posFrom]
theorem num_snoc_old {o : List Int} {c x : Int} (hne : x ≠ c) : num (o ++ [c]) x = num o x := by
  rw [num, posFrom_append]
  have : posFrom x (0 + o.length) [c] = [] := by simp [posFrom, Ne.symm hne]
  rw [this, List.append_nil]
  rfl
theorem num_mem {o : List Int} {c : Int} (h : c ∈ o) : ∃ k : Nat, ∃ hk : k < o.length, o[k] = c ∧ num o c = (k : Int) := by
  obtain ⟨j, r, h1, h2, h3⟩ := posFrom_some (k := 0) h
  exact ⟨j, h2, h3, by rw [num, h1]; simp⟩
theorem num_at {o : List Int} (hn : o.Nodup) {k : Nat} (hk : k < o.length) : num o o[k] = (k : Int) := by
  obtain ⟨j, hj, e, h⟩ := num_mem (List.getElem_mem hk)
  rw [h]
  have := (List.getElem_inj hn).1 e
  omega
theorem num_bounds (o : List Int) (c : Int) : -1 ≤ num o c ∧ num o c < (o.length : Int) := by
  by_cases h : c ∈ o
  · obtain ⟨k, hk, _, e⟩ := num_mem h
    omega
  · rw [num_not h]; omega
theorem num_inj {o : List Int} {x y : Int} (hx : x ∈ o) (hy : y ∈ o) (h : num o x = num o y) : x = y := by
  obtain ⟨j, hj, rfl, e1⟩ := num_mem hx
  obtain ⟨k, hk, rfl, e2⟩ := num_mem hy
  have : j = k := by omega
  subst this
  rfl
theorem num_minus {zs o : List Int} (h : OrdOk zs o) : num o (-1) = -1 := num_not fun hm => by have := h.cells _ hm; rw [isC_minus] at this; cases this
theorem num_upTo {n : Nat} {x : Int} (h : x = -1 ∨ (0 ≤ x ∧ x < (n : Int))) : num (upTo n) x = x := by
  rcases h with rfl | h
  · exact num_not fun hm => by have := upTo_mem.1 hm; omega
  · obtain ⟨k, hk, rfl⟩ : ∃ k : Nat, k < n ∧ x = (k : Int) := ⟨x.toNat, by omega, by omega⟩
    have := num_at (upTo_nodup n) (k := k) (by rw [upTo_length]; exact hk)
    rwa [upTo_at hk] at this

/-- The canonical heap. -/
def canonV (vs zs : List Int) : List Int := vs.map (num (order vs zs))
def canonN (vs zs : List Int) : List Int := (order vs zs).map fun c => num (order vs zs) (nextC zs c)
def goodH (vs zs : List Int) : Bool := goodB zs vs && goodB zs zs
theorem goodH_parts {vs zs : List Int} (h : goodH vs zs = true) : goodB zs vs = true ∧ goodB zs zs = true := by simpa [goodH] using h
/-- The canonical heap of any heap: the zero heap where an element is wrong. -/
def canonVs (vs zs : List Int) : List Int := if goodH vs zs = true then canonV vs zs else []
def canonNs (vs zs : List Int) : List Int := if goodH vs zs = true then canonN vs zs else []

theorem canon_of_upTo {vs zs : List Int} (h : goodH vs zs = true) (ho : order vs zs = upTo zs.length) : canonV vs zs = vs ∧ canonN vs zs = zs := by
  obtain ⟨hv, hz⟩ := goodH_parts h
  unfold canonV canonN
  rw [ho]
  constructor
  · conv => rhs; rw [← List.map_id vs]
    refine List.map_congr_left fun x hx => num_upTo ?_
    exact (goodB_at hv hx).imp id fun h => isC_iff.1 h
  · refine List.ext_getElem (by simp [upTo_length]) fun k h1 h2 => ?_
    simp only [List.getElem_map]
    rw [upTo_at h2, nextC_at h2]
    exact num_upTo ((goodB_at hz (List.getElem_mem h2)).imp id fun h => isC_iff.1 h)
/-- A heap that is its own canonical one: its cells are met in their order. -/
theorem upTo_of_canon {vs zs : List Int} (hv : canonV vs zs = vs) (hz : canonN vs zs = zs) : order vs zs = upTo zs.length := by
  have hE := order_end vs zs
  have hlen : (order vs zs).length = zs.length := by
    have := congrArg List.length hz
    simpa [canonN] using this
  have hall : ∀ x ∈ order vs zs, num (order vs zs) x = x := by
    have hQ : ∀ x ∈ order vs zs, x ∈ order vs zs ∧ num (order vs zs) x = x := by
      refine orderFrom_all (zs := zs) (vs := vs) (o := []) (fun x hx hq hn => ?_) (by simp) (fun v hvm hc => ?_)
      · refine ⟨hE.closed x hq.1 hn, ?_⟩
        obtain ⟨k, hk, e, en⟩ := num_mem hq.1
        have hkx : x = (k : Int) := by rw [← hq.2, en]
        have h2 : (canonN vs zs)[k]'(by simp [canonN]; exact hk) = num (order vs zs) (nextC zs x) := by simp [canonN, e]
        have h3 : zs[k]'(by omega) = num (order vs zs) (nextC zs x) := by rw [← h2]; congr 1; exact hz.symm
        have hkz : k < zs.length := by omega
        have h4 := nextC_at hkz
        rw [← hkx] at h4
        rw [← h3, h4]
      · refine ⟨order_vars hc hvm, ?_⟩
        obtain ⟨k, hk, rfl⟩ := List.getElem_of_mem hvm
        have h2 : (canonV vs zs)[k]'(by simp [canonV]; exact hk) = num (order vs zs) vs[k] := by simp [canonV]
        rw [← h2]
        congr 1
    exact fun x hx => (hQ x hx).2
  refine List.ext_getElem (by rw [upTo_length]; exact hlen) fun k h1 h2 => ?_
  rw [upTo_at (by rw [upTo_length] at h2; exact h2)]
  have := hall _ (List.getElem_mem h1)
  rw [num_at hE.nodup h1] at this
  exact this.symm

/-- New numbers along a chain. -/
theorem canon_next {vs zs : List Int} {c : Int} (hc : c ∈ order vs zs) : isC (canonN vs zs) (num (order vs zs) c) = true ∧ nextC (canonN vs zs) (num (order vs zs) c) = num (order vs zs) (nextC zs c) := by
  obtain ⟨k, hk, e, en⟩ := num_mem hc
  have hk' : k < (canonN vs zs).length := by simp [canonN]; exact hk
  rw [en]
  refine ⟨isC_of hk', ?_⟩
  rw [nextC_at hk']
  simp [canonN, e]
theorem chain_canon {vs zs : List Int} : ∀ {n : Nat} {c : Int}, (isC zs c = true → c ∈ order vs zs) → chain (canonN vs zs) n (num (order vs zs) c) = (chain zs n c).map (num (order vs zs))
  | 0, _, _ => rfl
  | n + 1, c, h => by
    have hE := order_end vs zs
    by_cases hi : isC zs c = true
    · have hc := h hi
      obtain ⟨h1, h2⟩ := canon_next hc
      simp only [chain, h1, hi, if_true, List.map_cons, h2]
      rw [chain_canon fun hn => hE.closed c hc hn]
    · simp only [Bool.not_eq_true] at hi
      have hno : c ∉ order vs zs := fun hm => by rw [hE.cells c hm] at hi; cases hi
      rw [num_not hno, chain_no (isC_minus _), chain_no hi]
      rfl
theorem orderFrom_sub {zs S : List Int} (hS : closedO zs S) {o vs : List Int} (ho : ∀ x ∈ o, x ∈ S) (hv : ∀ v ∈ vs, isC zs v = true → v ∈ S) : ∀ x ∈ orderFrom zs o vs, x ∈ S :=
  orderFrom_all (Q := fun x => x ∈ S) (fun x _ hx hn => hS x hx hn) ho hv
theorem order_canonFrom {vs zs : List Int} : ∀ {ws o : List Int}, OrdEnd zs o → (∀ x ∈ o, x ∈ order vs zs) → (∀ w ∈ ws, isC zs w = true → w ∈ order vs zs) →
    orderFrom (canonN vs zs) (o.map (num (order vs zs))) (ws.map (num (order vs zs))) = (orderFrom zs o ws).map (num (order vs zs))
  | [], _, _, _, _ => rfl
  | w :: ws, o, ho, hs, hw => by
    have hE := order_end vs zs
    have hwm := hw w (by simp)
    have hin : ∀ n, ∀ x ∈ chain zs n w, x ∈ order vs zs := fun n x hx => chain_in hE.closed hwm hx
    have hlen : (canonN vs zs).length = (order vs zs).length := by simp [canonN]
    simp only [List.map_cons, orderFrom]
    rw [chain_canon hwm, addAll_map, hlen, fuel_free (S := order vs zs) (m := zs.length) hE.closed ho.nodup hs ho.closed.to hwm (by omega) (by have := hE.len; omega)]
    · exact order_canonFrom (ho.next w) (fun x hx => by
        rcases addAll_mem.1 hx with hx | hx
        · exact hs x hx
        · exact hin _ x hx) (fun v hv => hw v (by simp [hv]))
    · intro x y hx hy e
      exact num_inj (hx.elim (hs x) (hin _ x)) (hy.elim (hs y) (hin _ y)) e
theorem order_canon (vs zs : List Int) : order (canonV vs zs) (canonN vs zs) = upTo (canonN vs zs).length := by
  have hE := order_end vs zs
  have h1 := order_canonFrom (vs := vs) (zs := zs) (ws := vs) (o := []) OrdEnd.nil_ (by simp) (fun w hw hi => order_vars hi hw)
  have h2 : order (canonV vs zs) (canonN vs zs) = (order vs zs).map (num (order vs zs)) := h1
  rw [h2]
  refine List.ext_getElem (by simp [upTo_length, canonN]) fun k h1 h2 => ?_
  have hk : k < (order vs zs).length := by simpa using h1
  rw [upTo_at (by rw [upTo_length] at h2; exact h2), List.getElem_map, num_at hE.nodup hk]
theorem canon_good (vs zs : List Int) : goodH (canonV vs zs) (canonN vs zs) = true := by
  have hlen : (canonN vs zs).length = (order vs zs).length := by simp [canonN]
  have hb : ∀ c, num (order vs zs) c = -1 ∨ isC (canonN vs zs) (num (order vs zs) c) = true := fun c => by
    by_cases h : c ∈ order vs zs
    · exact .inr (canon_next h).1
    · exact .inl (num_not h)
  have h1 : ∀ l : List Int, (∀ x ∈ l, x = -1 ∨ isC (canonN vs zs) x = true) → goodB (canonN vs zs) l = true := fun l h => by
    rw [goodB, List.all_eq_true]
    exact fun x hx => by have := h x hx; simpa using this
  rw [goodH, h1, h1]
  · rfl
  · intro x hx
    obtain ⟨c, _, rfl⟩ := List.mem_map.1 hx
    exact hb _
  · intro x hx
    obtain ⟨c, _, rfl⟩ := List.mem_map.1 hx
    exact hb _
/-- A canonical heap stays, and has no leak. -/
theorem canon_stays (vs zs : List Int) : canonVs (canonVs vs zs) (canonNs vs zs) = canonVs vs zs ∧ canonNs (canonVs vs zs) (canonNs vs zs) = canonNs vs zs ∧ leakB (canonVs vs zs) (canonNs vs zs) = false := by
  by_cases h : goodH vs zs = true
  · have h1 := canon_good vs zs
    have h2 := canon_of_upTo h1 (order_canon vs zs)
    simp only [canonVs, canonNs, h, if_true, h1, h2, true_and]
    rw [leak_good (goodH_parts h1).2, order_canon, upTo_length]
    simp
  · have h1 : canonVs vs zs = [] := if_neg h
    have h2 : canonNs vs zs = [] := if_neg h
    rw [h1, h2]
    refine ⟨by decide, by decide, by decide⟩

theorem orderFrom_snoc {zs : List Int} (v : Int) : ∀ (l o : List Int), orderFrom zs o (l ++ [v]) = addAll (orderFrom zs o l) (chain zs zs.length v)
  | [], _ => rfl
  | x :: l, o => by
    simp only [List.cons_append, orderFrom]
    exact orderFrom_snoc v l _
theorem orderS_snoc {zs : List Int} (v : Int) : ∀ (l o : List Int), orderS zs o (l ++ [v]) = addAll (orderS zs o l) (followed zs v)
  | [], _ => rfl
  | x :: l, o => by
    simp only [List.cons_append, orderS]
    exact orderS_snoc v l _
theorem followed_here {zs : List Int} (h : goodB zs zs = true) {k : Nat} (hk : k < zs.length) : ∃ hl : (followed zs (k : Int)).length - 1 < (followed zs (k : Int)).length, isC zs (followed zs (k : Int))[(followed zs (k : Int)).length - 1] = true := by
  have hm : (k : Int) ∈ followed zs (k : Int) := by
    rw [followed_good h (.inr (isC_of hk))]
    exact addAll_mem.2 (.inr (chain_here (isC_of hk)))
  have := List.length_pos_of_mem hm
  exact ⟨by omega, (followed_ok zs (k : Int)).cells _ (List.getElem_mem _)⟩

/-- No way leads round. -/
def acycAt (zs : List Int) (k : Int) : Bool := match (followed zs k).getLast? with
  | none => false
  | some x => decide (nextC zs x = -1)
def acyc (zs : List Int) : Bool := (upTo zs.length).all (acycAt zs)
theorem acycAt_of {zs : List Int} {k : Int} (hl : (followed zs k).length - 1 < (followed zs k).length) : acycAt zs k = decide (nextC zs ((followed zs k)[(followed zs k).length - 1]) = -1) := by
  unfold acycAt
  rw [List.getLast?_eq_getElem?, List.getElem?_eq_getElem hl]
theorem upTo_succ (n : Nat) : upTo (n + 1) = upTo n ++ [(n : Int)] := by simp [upTo, List.range_succ]
theorem acyc_bad {zs : List Int} {k : Nat} (hk : k < zs.length) (h : acycAt zs (k : Int) = false) : acyc zs = false := by
  rw [acyc, List.all_eq_false]
  exact ⟨(k : Int), upTo_mem.2 (by omega), by simp [h]⟩
theorem acyc_next {zs : List Int} {k : Nat} (ha : (upTo k).all (acycAt zs) = true) (h : acycAt zs (k : Int) = true) : (upTo (k + 1)).all (acycAt zs) = true := by
  rw [upTo_succ, List.all_append, ha]
  simp [h]
def heapB (n : Int) (vs zs : List Int) : Bool := decide (1 ≤ n ∧ n ≤ 4 ∧ (vs.length : Int) = n ∧ zs.length ≤ 6) && goodH vs zs && acyc zs && decide (order vs zs = upTo zs.length)
theorem heap_stays {n : Int} {vs zs : List Int} (h : heapB n vs zs = true) : canonVs vs zs = vs ∧ canonNs vs zs = zs ∧ leakB vs zs = false := by
  simp only [heapB, Bool.and_eq_true, decide_eq_true_eq] at h
  obtain ⟨⟨⟨_, hg⟩, _⟩, ho⟩ := h
  have h2 := canon_of_upTo hg ho
  refine ⟨by simp only [canonVs, hg, if_true, h2], by simp only [canonNs, hg, if_true, h2], ?_⟩
  rw [leak_good (goodH_parts hg).2, ho, upTo_length]
  simp
/-- Its own canonical heap: that its cells are met in their order. -/
theorem canon_same {vs zs : List Int} (h : goodH vs zs = true) : (decide (vs = canonVs vs zs) && decide (zs = canonNs vs zs)) = decide (order vs zs = upTo zs.length) := by
  simp only [canonVs, canonNs, h, if_true]
  rw [← Bool.decide_and]
  congr 1
  simp only [eq_iff_iff]
  exact ⟨fun hh => upTo_of_canon hh.1.symm hh.2.symm, fun hh => ⟨(canon_of_upTo h hh).1.symm, (canon_of_upTo h hh).2.symm⟩⟩
end Go.Proofs.YtglcailcdcpadaaGreatDoor
