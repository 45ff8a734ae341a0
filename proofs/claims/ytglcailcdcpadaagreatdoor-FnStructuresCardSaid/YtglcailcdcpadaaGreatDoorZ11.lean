/-
  Several texts of one proof in one file, in the order in which they build.
-/
import Derived.Maps.OwnSet
import Derived.Maps.RangeWalk
import Derived.Maps.Ext
import Derived.Deep.RegionHeld3
import Derived.Test.YtglcailcdcpadaaGreatDoorZ10
import Derived.Test.YtglcailcdcpadaaGreatDoorZ03
/-
  The map from cells to their numbers, in the order in which they were met.
-/
namespace Go.Proofs.YtglcailcdcpadaaGreatDoor
open Go Go.RowKit Go.Maps

def mapFrom {H : Type} : Nat → DataW H → List Int → DataW H
  | _, D, [] => D
  | k, D, c :: cs => mapFrom (k + 1) (D.put (.int .i64 c) (.lit (.int .i64 (k : Int)))) cs
def mapOf {H : Type} (o : List Int) : DataW H := mapFrom 0 (.map []) o
theorem mapFrom_snoc {H : Type} (c : Int) : ∀ (o : List Int) (k : Nat) (D : DataW H), mapFrom k D (o ++ [c]) = (mapFrom k D o).put (.int .i64 c) (.lit (.int .i64 ((k + o.length : Nat) : Int)))
  | [], k, D => rfl
  | x :: o, k, D => by
    simp only [List.cons_append, mapFrom, List.length_cons]
    rw [mapFrom_snoc c o (k + 1)]
    rw [show k + 1 + o.length = k + (o.length + 1) by omega]
theorem mapOf_snoc {H : Type} (o : List Int) (c : Int) : (mapOf (o ++ [c]) : DataW H) = (mapOf o).put (.int .i64 c) (.lit (.int .i64 (o.length : Int))) := by
  simp only [mapOf, mapFrom_snoc, Nat.zero_add]
theorem lit_ne {x c : Int} (h : x ≠ c) : (Lit.int .i64 x) ≠ .int .i64 c := fun e => h (by cases e; rfl)
theorem snoc_cases {α : Type} (l : List α) : l = [] ∨ ∃ a x, l = a ++ [x] := by
  rcases List.eq_nil_or_concat l with h | ⟨a, x, h⟩
  · exact .inl h
  · exact .inr ⟨a, x, by simpa using h⟩
theorem keyLit (x : Int) : WideAt.IsKeyLit (.int .i64 x) := trivial
/-- What the map says of a key. -/
structure MapSays {H : Type} (o : List Int) : Prop where
  tidy : Tidy (mapOf o : DataW H)
  has_ : ∀ x : Int, Maps.has (mapOf o : DataW H) (.int .i64 x) = decide (x ∈ o)
  at_ : ∀ x : Int, x ∈ o → ∀ z, (mapOf o : DataW H).atKey (.int .i64 x) z = .lit (.int .i64 (num o x))
  size_ : Maps.size (mapOf o : DataW H) = o.length
theorem mapSays {H : Type} : ∀ (n : Nat) (o : List Int), o.length = n → o.Nodup → MapSays (H := H) o
  | 0, o, hl, _ => by
    have : o = [] := List.eq_nil_of_length_eq_zero hl
    subst this
    exact ⟨tidy_empty, fun x => by simp [mapOf, mapFrom, Maps.has], fun x h => by simp at h, rfl⟩
  | n + 1, o, hl, hn => by
    rcases snoc_cases o with rfl | ⟨a, c, rfl⟩
    · simp at hl
    · have ha : a.Nodup ∧ c ∉ a := by
        rw [List.nodup_append] at hn
        exact ⟨hn.1, fun h => hn.2.2 c h c (by simp) rfl⟩
      have ih := mapSays (H := H) n a (by simpa using hl) ha.1
      have hno : Maps.has (mapOf a : DataW H) (.int .i64 c) = false := by rw [ih.has_]; simp [ha.2]
      refine ⟨?_, fun x => ?_, fun x hx z => ?_, ?_⟩
      · rw [mapOf_snoc]
        exact ih.tidy.put (keyLit c) _
      · rw [mapOf_snoc]
        by_cases h : x = c
        · subst h
          rw [Maps.has_put_same ih.tidy.isMap (keyLit x)]
          simp
        · rw [Maps.has_put_other (lit_ne h), ih.has_]
          simp [h]
      · rw [mapOf_snoc]
        by_cases h : x = c
        · subst h
          rw [Maps.atKey_put_same ih.tidy.isMap (keyLit x), num_snoc_new ha.2]
        · rw [Maps.atKey_put_other (lit_ne h), num_snoc_old h]
          refine ih.at_ x ?_ z
          rcases List.mem_append.1 hx with hx | hx
          · exact hx
          · simp at hx; exact absurd hx h
      · rw [mapOf_snoc, Maps.size_put ih.tidy, hno, ih.size_]
        simp
theorem says {H : Type} {o : List Int} (h : o.Nodup) : MapSays (H := H) o := mapSays _ o rfl h

/-- How many entries a map's block has. -/
def mapSize (w : World) (b : Nat) : Nat := match w.heap[b]? with
  | some (.map es _) => es.size
  | _ => 0
theorem World.ownsMap.mapSize_eq {H : Type} {P : Program} {k : TypeId} {R : Value → Option (DataW H × List MemPlace)} {w : World} {b n : Nat} {D : DataW H} (h : w.ownsMap P k R b n D) : mapSize w b = Maps.size D := by
  obtain ⟨es, clock, hb, _, _, rfl⟩ := h
  simp [mapSize, hb, Maps.size, length_sorted]
/-- A cell lies in no map's block. -/
theorem World.ownsMap.ne_cell {H : Type} {P : Program} {k : TypeId} {R : Value → Option (DataW H × List MemPlace)} {w : World} {b n : Nat} {D : DataW H} (h : w.ownsMap P k R b n D) {g o : Nat} {x : Value} (hc : w.cell? ⟨g, o, none⟩ = some x) : g ≠ b := by
  obtain ⟨es, clock, hb, _⟩ := h
  intro e
  subst e
  simp [World.cell?, hb] at hc

theorem lawK : Keyed Tryz.prog 3 := int_keyed Tryz.underlying3
theorem zeroE (w : World) : (zeroValue 3).run Tryz.prog w = .ok (.int .i64 0) w := by kernel_rfl
/-- A map of the program that numbers the cells in their order. -/
def Numbers (H : Type) (w : World) (mb : Nat) (o : List Int) : Prop := w.ownsMap (H := H) Tryz.prog 3 (plainElem Tryz.prog 3) mb o.length (mapOf o)
section
variable {H : Type} {w w' : World} {mb : Nat} {o : List Int}
theorem Numbers.below (h : Numbers H w mb o) (hb : Below w.heap.size w w') : Numbers H w' mb o :=
  World.ownsMap.kept (row := none) h ⟨hb.os, hb.tape, hb.output, hb.size, fun k hk _ => hb.block k hk⟩ (by simp)
theorem Numbers.row {B : Nat} {a : Option Addr} {xs : List Value} (h : Numbers H w mb o) (hr : Row w B a xs) (hg : w.grownBy w' (some mb)) : Row w' B a xs := fun k x hx => by
  obtain ⟨b, o', e, hb, hc⟩ := hr k x hx
  exact ⟨b, o', e, hb, hg.cell hc fun e => World.ownsMap.ne_cell h hc (by injection e)⟩
end
theorem grown_next {a b c : World} {r : Option Nat} (h : a.grownBy b r) (k : b.grownBy c r) : a.grownBy c r :=
  ⟨k.os.trans h.os, k.tape.trans h.tape, k.output.trans h.output, Nat.le_trans h.size k.size, fun j hj hd => (k.block j (Nat.lt_of_lt_of_le hj h.size) hd).trans (h.block j hj hd)⟩
theorem grown_below {a b c : World} {r : Option Nat} (h : a.grownBy b r) (k : Below b.heap.size b c) : a.grownBy c r :=
  grown_next h ⟨k.os, k.tape, k.output, k.size, fun j hj _ => k.block j hj⟩
end Go.Proofs.YtglcailcdcpadaaGreatDoor
/-
  The program's walks over a heap: which numbers are cells, following, numbering.
-/
namespace Go.Proofs.YtglcailcdcpadaaGreatDoor
open Go Go.RowKit Go.Maps

theorem sameKey_int (a b : Int) : (Lit.int .i64 a).sameKey (.int .i64 b) = decide (a = b) := by
  by_cases h : a = b
  · subst h
    simp [Lit.sameKey]
  · rw [Maps.sameKey_ne (lit_ne h)]
    simp [h]
theorem intInfoH : (Tryz.prog.info? 3).map (fun i => (i.zero, i.size, i.bytes)) = some (some (.int .i64 0), 1, 8) := by kernel_rfl

theorem grown_from {a b c : World} {r : Option Nat} (h : Below a.heap.size a b) (k : b.grownBy c r) : a.grownBy c r :=
  ⟨k.os.trans h.os, k.tape.trans h.tape, k.output.trans h.output, Nat.le_trans h.size k.size, fun j hj hd => (k.block j (Nat.lt_of_lt_of_le hj h.size) hd).trans (h.block j hj)⟩
theorem below_grown {B : Nat} {a b c : World} {m : Nat} (h : Below B a b) (hB : B ≤ b.heap.size) (k : b.grownBy c (some m)) (hm : B ≤ m) : Below B a c := h.grown k hB fun j hj => by have := Option.some.inj hj; omega

end Go.Proofs.YtglcailcdcpadaaGreatDoor
