/-
  Rows of structs that hold heaps: each with where its rows lie and what they hold. Nothing here knows of the program's text.
-/
import Derived.Test.YtplchhahjmoodaaDoorHeapV
import Derived.Deep.Slices
namespace Go.Proofs.YtplchhahjmoodaaDoor
open Go Go.RowKit

/-- Rows whose elements take s cells each. -/
def fl {α : Type} (c : α → List Value) (xs : List α) : List Value := xs.flatMap c
section
variable {α : Type} {c : α → List Value} {s : Nat}
theorem fl_nil : fl c [] = [] := rfl
theorem fl_cons (x : α) (xs : List α) : fl c (x :: xs) = c x ++ fl c xs := rfl
theorem fl_append (xs ys : List α) : fl c (xs ++ ys) = fl c xs ++ fl c ys := by simp [fl]
theorem fl_snoc (xs : List α) (x : α) : fl c (xs ++ [x]) = fl c xs ++ c x := by simp [fl]
theorem fl_length (hc : ∀ x, (c x).length = s) : ∀ xs : List α, (fl c xs).length = xs.length * s
  | [] => by simp [fl]
  | x :: xs => by rw [fl_cons, List.length_append, fl_length hc xs, hc, List.length_cons, Nat.add_mul, Nat.one_mul, Nat.add_comm]
theorem fl_at (hc : ∀ x, (c x).length = s) : ∀ (xs : List α) (i : Nat) (h : i < xs.length) (j : Nat), j < s → (fl c xs)[i * s + j]? = (c xs[i])[j]?
  | x :: xs, 0, _, j, hj => by
    rw [fl_cons, List.getElem?_append_left (by rw [hc]; omega)]
    simp
  | x :: xs, i + 1, h, j, hj => by
    have h' : i < xs.length := by simpa using h
    rw [fl_cons, List.getElem?_append_right (by rw [hc, Nat.add_mul]; omega), hc, show (i + 1) * s + j - s = i * s + j by rw [Nat.add_mul]; omega, fl_at hc xs i h' j hj]
    simp
theorem fl_take (hc : ∀ x, (c x).length = s) : ∀ (xs : List α) (k : Nat), (fl c xs).take (k * s) = fl c (xs.take k)
  | [], k => by simp [fl]
  | x :: xs, 0 => by simp [fl]
  | x :: xs, k + 1 => by
    rw [fl_cons, List.take_succ_cons, fl_cons, List.take_append, hc, show (k + 1) * s - s = k * s by rw [Nat.add_mul]; omega, fl_take hc xs k, List.take_of_length_le (by rw [hc, Nat.add_mul]; omega)]
/-- An element's cells in a row that is read. -/
theorem Row.item {w : World} {B : Nat} {a : Option Addr} {xs : List α} (hc : ∀ x, (c x).length = s) (hs : 0 < s) (h : Row w B a (fl c xs)) (i : Nat) (hi : i < xs.length) :
    ∃ b o, a = some ⟨b, o, none⟩ ∧ b < B ∧ ∀ j u, (c xs[i])[j]? = some u → w.cell? ⟨b, o + (i * s + j), none⟩ = some u := by
  have g := fun j (hj : j < s) => h (i * s + j) _ ((fl_at hc xs i hi j hj).trans (List.getElem?_eq_getElem (by rw [hc]; exact hj)))
  obtain ⟨b, o, rfl, hb, _⟩ := g 0 hs
  refine ⟨b, o, rfl, hb, fun j u hu => ?_⟩
  obtain ⟨hj, rfl⟩ := List.getElem?_eq_some_iff.1 hu
  obtain ⟨b', o', e, _, hcell⟩ := g j (by rw [hc] at hj; exact hj)
  injection e with e
  injection e with e1 e2 _
  subst e1 e2
  exact hcell
end

/-- A heap: where its two rows lie, and what they hold. -/
structure Hp where
  a : Option Addr
  ca : Nat
  b : Option Addr
  cb : Nat
  vs : List Int
  zs : List Int
/-- What a heap holds. -/
def Hp.body (x : Hp) : List Int × List Int := (x.vs, x.zs)
/-- The blocks of a heap. -/
def Hp.has (x : Hp) (k : Nat) : Prop := (Value.slice x.a x.vs.length x.ca).ownBlock = some k ∨ (Value.slice x.b x.zs.length x.cb).ownBlock = some k
abbrev Hp.v (x : Hp) : Value := heV x.a x.vs.length x.ca x.b x.zs.length x.cb
def hpCells (x : Hp) : List Value := [.slice x.a x.vs.length x.ca, .slice x.b x.zs.length x.cb]
theorem hpCells_length (x : Hp) : (hpCells x).length = 2 := rfl
abbrev hpVals (hs : List Hp) : List Value := fl hpCells hs
def Hp.At (W : World) (x : Hp) : Prop := HeapAt W x.a x.b x.vs x.zs
def Hp.In (lo hi : Nat) (W : World) (x : Hp) : Prop := HeapIn lo hi W x.a x.ca x.b x.cb (intVals x.vs) (intVals x.zs)
theorem Hp.In.at_ {lo hi : Nat} {W : World} {x : Hp} (h : x.In lo hi W) : x.At W := HeapIn.rows h
theorem Hp.At.below {W W' : World} {x : Hp} (h : x.At W) (hb : Below W.heap.size W W') : x.At W' := HeapAt.below h hb (Nat.le_refl _)
theorem Hp.In.has_lt {lo hi : Nat} {W : World} {x : Hp} (h : x.In lo hi W) {k : Nat} (hk : x.has k) : lo ≤ k ∧ k < hi := by
  rcases hk with hk | hk
  · exact ⟨(h.v.2.1.lt k (by rw [intVals_length]; exact hk)).1, h.v.2.2 k (by rw [intVals_length]; exact hk)⟩
  · exact ⟨(h.z.2.1.lt k (by rw [intVals_length]; exact hk)).1, h.z.2.2 k (by rw [intVals_length]; exact hk)⟩

def hpSize (x : Hp) : Nat := x.vs.length + x.zs.length
def hpTotal (hs : List Hp) : Nat := (hs.map hpSize).sum
theorem hpTotal_next (hs : List Hp) (k : Nat) (h : k < hs.length) : hpTotal (hs.take (k + 1)) = hpTotal (hs.take k) + hpSize hs[k] := by
  unfold hpTotal
  rw [take_next hs k h, List.map_append, List.sum_append, List.map_cons, List.map_nil, List.sum_cons, List.sum_nil, Nat.add_zero]
theorem hpTotal_take : ∀ (hs : List Hp) (k : Nat), hpTotal (hs.take k) ≤ hpTotal hs
  | [], k => by simp [hpTotal]
  | x :: hs, 0 => by simp [hpTotal]
  | x :: hs, k + 1 => by
    have := hpTotal_take hs k
    simp only [hpTotal, List.take_succ_cons, List.map_cons, List.sum_cons] at *
    omega
/-- A row of heaps that may be read. -/
structure HeapsAt (W : World) (a : Option Addr) (hs : List Hp) : Prop where
  row : Row W W.heap.size a (hpVals hs)
  each : ∀ x ∈ hs, x.At W
theorem HeapsAt.below {W W' : World} {a : Option Addr} {hs : List Hp} (h : HeapsAt W a hs) (hb : Below W.heap.size W W') : HeapsAt W' a hs :=
  ⟨(h.row.below hb).grow hb.size, fun x hx => (h.each x hx).below hb⟩

section
variable {lo hi : Nat} {W W' : World} {x : Hp} {hs : List Hp}
theorem OwnIn.same {e size n : Nat} {v : Value} {xs : List Value} (h : OwnIn lo hi W e size v n xs) (hz : W.heap.size ≤ W'.heap.size) (hb : ∀ k, v.ownBlock = some k → W'.heap[k]? = W.heap[k]?) : OwnIn lo hi W' e size v n xs := by
  refine ⟨Nat.le_trans h.1 hz, ⟨h.2.1.1, h.2.1.2.imp id ?_⟩, h.2.2⟩
  rintro ⟨g, cap, cur, rfl, hl, hgc, r⟩
  exact ⟨g, cap, cur, rfl, hl, (hb g rfl).trans hgc, r⟩
theorem Hp.In.same (h : x.In lo hi W) (hz : W.heap.size ≤ W'.heap.size) (hb : ∀ k, x.has k → W'.heap[k]? = W.heap[k]?) : x.In lo hi W' :=
  ⟨OwnIn.same h.v hz fun k hk => hb k (.inl (by rw [intVals_length] at hk; exact hk)), OwnIn.same h.z hz fun k hk => hb k (.inr (by rw [intVals_length] at hk; exact hk)), h.apart⟩
theorem Hp.In.mono {lo' hi' : Nat} (h : x.In lo hi W) (h1 : lo' ≤ lo) (h2 : hi ≤ hi') (h3 : hi' ≤ W.heap.size) : x.In lo' hi' W := HeapIn.mono h h1 h2 h3
/-- Heaps that calls made: their rows may be written, and no two share a block. -/
structure HeapsIn (lo : Nat) (W : World) (hs : List Hp) : Prop where
  each : ∀ x ∈ hs, x.In lo W.heap.size W
  apart : hs.Pairwise fun x y => ∀ k, x.has k → ¬ y.has k
theorem HeapsIn.nil : HeapsIn lo W [] := ⟨fun x hx => by simp at hx, List.Pairwise.nil⟩
theorem HeapsIn.same (h : HeapsIn lo W hs) (hz : W.heap.size ≤ W'.heap.size) (hb : ∀ x ∈ hs, ∀ k, x.has k → W'.heap[k]? = W.heap[k]?) : HeapsIn lo W' hs :=
  ⟨fun x hx => ((h.each x hx).same hz (hb x hx)).mono (Nat.le_refl _) hz (Nat.le_refl _), h.apart⟩
theorem HeapsIn.has_lt (h : HeapsIn lo W hs) (hx : x ∈ hs) {k : Nat} (hk : x.has k) : lo ≤ k ∧ k < W.heap.size := (h.each x hx).has_lt hk
theorem HeapsIn.below (h : HeapsIn lo W hs) (hb : Below W.heap.size W W') : HeapsIn lo W' hs := h.same hb.size fun _ hx k hk => hb.block k (h.has_lt hx hk).2
theorem HeapsIn.mono {lo' : Nat} (h : HeapsIn lo W hs) (h1 : lo' ≤ lo) : HeapsIn lo' W hs := ⟨fun x hx => (h.each x hx).mono h1 (Nat.le_refl _) (Nat.le_refl _), h.apart⟩
theorem HeapsIn.snoc (h : HeapsIn lo W hs) (hx : x.In lo W.heap.size W) (hn : ∀ y ∈ hs, ∀ k, y.has k → ¬ x.has k) : HeapsIn lo W (hs ++ [x]) := by
  refine ⟨fun y hy => ?_, ?_⟩
  · rcases List.mem_append.1 hy with hy | hy
    · exact h.each y hy
    · rw [List.mem_singleton.1 hy]
      exact hx
  · rw [List.pairwise_append]
    exact ⟨h.apart, List.pairwise_singleton _ _, fun y hy z hz k hk => by rw [List.mem_singleton.1 hz]; exact hn y hy k hk⟩
theorem HeapsIn.at_ (h : HeapsIn lo W hs) (hx : x ∈ hs) : x.At W := (h.each x hx).at_
/-- One of the heaps is written: the others stay. -/
theorem HeapsIn.set (h : HeapsIn lo W hs) {i : Nat} (hi : i < hs.length) {y : Hp} (hz : W.heap.size ≤ W'.heap.size) (hb : ∀ k, k < W.heap.size → ¬ hs[i].has k → W'.heap[k]? = W.heap[k]?) (hy : y.In lo W'.heap.size W') (hh : ∀ k, y.has k → hs[i].has k) : HeapsIn lo W' (hs.set i y) := by
  have hp := List.pairwise_iff_getElem.1 h.apart
  have hne : ∀ j (hj : j < hs.length), j ≠ i → ∀ k, hs[j].has k → ¬ hs[i].has k := by
    intro j hj hji k hk hki
    rcases Nat.lt_or_gt_of_ne hji with hlt | hgt
    · exact hp j i hj hi hlt k hk hki
    · exact hp i j hi hj hgt k hki hk
  refine ⟨fun x hx => ?_, ?_⟩
  · obtain ⟨j, hj, rfl⟩ := List.getElem_of_mem hx
    rw [List.length_set] at hj
    rw [List.getElem_set]
    by_cases hij : i = j
    · rw [if_pos hij]
      exact hy
    · rw [if_neg hij]
      have hm : hs[j] ∈ hs := List.getElem_mem hj
      exact ((h.each _ hm).same hz fun k hk => hb k (h.has_lt hm hk).2 (hne j hj (Ne.symm hij) k hk)).mono (Nat.le_refl _) hz (Nat.le_refl _)
  · rw [List.pairwise_iff_getElem]
    intro p q hp' hq' hpq k
    rw [List.length_set] at hp' hq'
    rw [List.getElem_set, List.getElem_set]
    by_cases h1 : i = p
    · rw [if_pos h1, if_neg (by omega)]
      intro hk hk2
      exact hne q hq' (by omega) k hk2 (hh k hk)
    · rw [if_neg h1]
      by_cases h2 : i = q
      · rw [if_pos h2]
        intro hk hk2
        exact hne p hp' (by omega) k hk (hh k hk2)
      · rw [if_neg h2]
        exact hp p q hp' hq' hpq k
theorem Hp.In.store {b i : Nat} {u : Value} (h : x.In lo hi W) (hb : b < lo) : x.In lo hi (W.setCell ⟨b, i, none⟩ u) :=
  h.same (by simp) fun k hk => Below.heap_setCell _ _ _ _ (by have := (h.has_lt hk).1; show k ≠ b; omega)
theorem HeapsIn.store {b i : Nat} {u : Value} (h : HeapsIn lo W hs) (hb : b < lo) : HeapsIn lo (W.setCell ⟨b, i, none⟩ u) hs :=
  h.same (by simp) fun x hx k hk => Below.heap_setCell _ _ _ _ (by have := (h.has_lt hx hk).1; show k ≠ b; omega)
end

/-- Only blocks for which S holds may have turned; new ones may be there. -/
structure Only (S : Nat → Prop) (w w' : World) : Prop where
  os : w'.os = w.os
  tape : w'.tape = w.tape
  output : w'.output = w.output
  size : w.heap.size ≤ w'.heap.size
  block : ∀ k, k < w.heap.size → ¬ S k → w'.heap[k]? = w.heap[k]?
section
variable {S S' : Nat → Prop} {w w' w'' : World}
theorem Only.of_below (h : Below w.heap.size w w') : Only S w w' := ⟨h.os, h.tape, h.output, h.size, fun k hk _ => h.block k hk⟩
theorem Only.refl : Only S w w := Only.of_below (Below.refl _ _)
theorem Only.trans (h : Only S w w') (k : Only S w' w'') : Only S w w'' :=
  ⟨k.os.trans h.os, k.tape.trans h.tape, k.output.trans h.output, Nat.le_trans h.size k.size, fun j hj hd => (k.block j (Nat.lt_of_lt_of_le hj h.size) hd).trans (h.block j hj hd)⟩
theorem Only.of_grown {r : Option Nat} (h : w.grownBy w' r) (hr : ∀ k, r = some k → S k) : Only S w w' := ⟨h.os, h.tape, h.output, h.size, fun k hk hd => h.block k hk fun e => hd (hr k e.symm)⟩
theorem Only.mono (h : Only S w w') (hS : ∀ k, S k → S' k) : Only S' w w' := ⟨h.os, h.tape, h.output, h.size, fun k hk hd => h.block k hk fun hs => hd (hS k hs)⟩
theorem Only.below {B : Nat} {w0 : World} (h : Only S w w') (hb : Below B w0 w) (hB : B ≤ w.heap.size) (hS : ∀ k, S k → B ≤ k) : Below B w0 w' :=
  ⟨h.os.trans hb.os, h.tape.trans hb.tape, h.output.trans hb.output, Nat.le_trans hb.size h.size, fun k hk => (h.block k (by omega) fun hs => by have := hS k hs; omega).trans (hb.block k hk)⟩
theorem Only.set {b i : Nat} {u : Value} (hb : S b) : Only S w (w.setCell ⟨b, i, none⟩ u) :=
  ⟨rfl, rfl, rfl, by simp, fun k _ hd => Below.heap_setCell _ _ _ _ (by show k ≠ b; exact fun e => hd (e ▸ hb))⟩
end
end Go.Proofs.YtplchhahjmoodaaDoor
