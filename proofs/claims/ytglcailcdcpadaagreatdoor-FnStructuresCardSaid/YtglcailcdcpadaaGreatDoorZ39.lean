/-
  Several texts of one proof in one file, in the order in which they build.
-/
import Derived.Deep.RegionHeld3
import Derived.Test.YtglcailcdcpadaaGreatDoorZ37
import Derived.Test.YtglcailcdcpadaaGreatDoorZ05
/-
  The draws of the law on heaps: a heap, two heaps, a heap and a cell, a heap and a number, names and a heap: of what is drawn only the range is told.
-/
namespace Go.Proofs.YtglcailcdcpadaaGreatDoor
open Go Go.RowKit

/-- The rows of a heap, in blocks from lo on, below hi: they may be read. -/
def HRows (lo hi : Nat) (W : World) (a b : Option Addr) (vs zs : List Int) : Prop := RowIn lo hi W a (intVals vs) ∧ RowIn lo hi W b (intVals zs)
section
variable {lo hi lo' hi' : Nat} {W W' : World} {a b : Option Addr} {vs zs : List Int}
theorem HRows.turn (h : HRows lo hi W a b vs zs) (t : Turn lo' hi' W W') (hd : hi ≤ lo' ∨ hi' ≤ lo) : HRows lo hi W' a b vs zs := ⟨h.1.turn t hd, h.2.turn t hd⟩
theorem HRows.below (h : HRows lo hi W a b vs zs) (hb : Below W.heap.size W W') : HRows lo hi W' a b vs zs := ⟨h.1.below hb, h.2.below hb⟩
theorem HRows.at_ (h : HRows lo hi W a b vs zs) : HeapAt W a b vs zs := ⟨h.1.row, h.2.row⟩
theorem HRows.hi_le (h : HRows lo hi W a b vs zs) : hi ≤ W.heap.size := h.1.1
theorem HeapIn.reads {ca cb : Nat} (h : HeapIn lo hi W a ca b cb (intVals vs) (intVals zs)) : HRows lo hi W a b vs zs := ⟨h.v.rowIn, h.z.rowIn⟩
end
theorem one_boxLH (w : World) (xs : List Value) (t : TypeId) : ∃ W0, w.alloc (.cells xs.toArray t) = W0 ∧ Below w.heap.size w W0 ∧ BoxL W0 w.heap.size xs :=
  ⟨_, rfl, (Below.refl _ _).alloc (Nat.le_refl _) _, BoxL.new w xs t⟩
theorem wrap_one {z : Nat} (h : z ≤ 9223372036854775807) : IntKind.i64.wrap ((z : Int) - 1) = (z : Int) - 1 := by
  rw [IntKind.wrap_i64]; omega

/-- A heap, drawn from a law's bytes. -/
def SomeHeap (w : World) (e : Ending) (w' : World) : Prop :=
  ∃ a ca b cb vs zs, e = .returned (heV a vs.length ca b zs.length cb) ∧ vs.length = 3 ∧ zs.length ≤ 6 ∧ HRows w.heap.size w'.heap.size w' a b vs zs ∧ Below w.heap.size w w'
theorem RowIn.mono {lo hi lo' hi' : Nat} {W : World} {a : Option Addr} {xs : List Value} (h : RowIn lo hi W a xs) (h1 : lo' ≤ lo) (h2 : hi ≤ hi') (h3 : hi' ≤ W.heap.size) : RowIn lo' hi' W a xs :=
  ⟨h3, fun k x hx => let ⟨b, o, e, q1, q2, q3⟩ := h.2 k x hx; ⟨b, o, e, Nat.le_trans h1 q1, Nat.lt_of_lt_of_le q2 h2, q3⟩⟩
theorem some_end {w W : World} {lo hi : Nat} {a b : Option Addr} {vs zs : List Int} (hB : Below w.heap.size w W) (hl : w.heap.size < lo) (hin : HRows lo hi W a b vs zs) (u0 u1 : Value) :
    HRows w.heap.size ((W.setCell ⟨w.heap.size, 0, none⟩ u0).setCell ⟨w.heap.size, 1, none⟩ u1).heap.size ((W.setCell ⟨w.heap.size, 0, none⟩ u0).setCell ⟨w.heap.size, 1, none⟩ u1) a b vs zs ∧ Below w.heap.size w ((W.setCell ⟨w.heap.size, 0, none⟩ u0).setCell ⟨w.heap.size, 1, none⟩ u1) :=
  have tq : Turn w.heap.size (w.heap.size + 1) W ((W.setCell ⟨w.heap.size, 0, none⟩ u0).setCell ⟨w.heap.size, 1, none⟩ u1) := (turn_set _ _ _ _).trans (turn_set _ _ _ _)
  have h := hin.turn tq (.inr (by omega))
  ⟨⟨h.1.mono (by omega) h.1.1 (Nat.le_refl _), h.2.mono (by omega) h.2.1 (Nat.le_refl _)⟩, Turn.below hB tq (Nat.le_refl _) hB.size⟩

/-- A number of names and a heap, drawn. -/
def SomeNumHeap (w : World) (e : Ending) (w' : World) : Prop :=
  ∃ n a ca b cb vs zs, e = .returned (.tuple #[.int .i64 n, heV a vs.length ca b zs.length cb]) ∧ (2 ≤ n ∧ n ≤ 4) ∧ vs.length = 3 ∧ zs.length ≤ 6 ∧ HRows w.heap.size w'.heap.size w' a b vs zs ∧ Below w.heap.size w w'
/-- A heap and a cell, drawn. -/
def SomeHeapCell (w : World) (e : Ending) (w' : World) : Prop :=
  ∃ a ca b cb vs zs, ∃ x : Int, e = .returned (.tuple #[heV a vs.length ca b zs.length cb, .int .i64 x]) ∧ (-1 ≤ x ∧ x ≤ 6) ∧ vs.length = 3 ∧ zs.length ≤ 6 ∧ HRows w.heap.size w'.heap.size w' a b vs zs ∧ Below w.heap.size w w'
end Go.Proofs.YtglcailcdcpadaaGreatDoor
/-
  The copy of a heap that a draw makes; two heaps, names and a heap, drawn.
-/
namespace Go.Proofs.YtglcailcdcpadaaGreatDoor
open Go Go.RowKit

theorem intVals_one (l : List Int) : ∀ u ∈ intVals l, u.oneCell' = true := by
  intro u hu
  obtain ⟨x, _, rfl⟩ := List.mem_map.1 hu
  rfl
/-- A heap, copied: two new rows. -/
def CopiedHeap (vs zs : List Int) (w : World) (e : Ending) (w' : World) : Prop :=
  ∃ a ca b cb, e = .returned (heV a vs.length ca b zs.length cb) ∧ HRows w.heap.size w'.heap.size w' a b vs zs ∧ Below w.heap.size w w'
def names3 : List ByteArray := [⟨#[120]⟩, ⟨#[121]⟩, ⟨#[116]⟩]
theorem names3_size : ∀ s ∈ names3, s.size ≤ 1 := by decide
theorem drawNames3 (w : World) : Calls Tryz.prog 37 #[] w fun e w' => e = .returned (.slice (some ⟨w.heap.size, 0, none⟩) 3 3) ∧ w.alloc (.cells (strVals names3).toArray 9) = w' := by
  go_enter Tryz.func37, Tryz.ntmps37
  go_wp2
  go_ret
  exact ⟨rfl, rfl⟩
theorem rowIn_new (w : World) (xs : List Value) (t : TypeId) : RowIn w.heap.size (w.heap.size + 1) (w.alloc (.cells xs.toArray t)) (some ⟨w.heap.size, 0, none⟩) xs :=
  ⟨by simp, fun k x hx => ⟨w.heap.size, 0, rfl, Nat.le_refl _, Nat.lt_succ_self _, by rw [Nat.zero_add]; exact (BoxL.new w xs t).c k x hx⟩⟩
/-- Names and a heap, drawn. -/
def SomeTextHeap (w : World) (e : Ending) (w' : World) : Prop :=
  ∃ (ss : List ByteArray), ∃ v a ca b cb vs zs, e = .returned (.tuple #[.slice v ss.length 3, heV a vs.length ca b zs.length cb]) ∧ (ss.length ≤ 3 ∧ ∀ s ∈ ss, s.size ≤ 1) ∧ vs.length = 3 ∧ zs.length ≤ 6 ∧ RowIn w.heap.size w'.heap.size w' v (strVals ss) ∧ HRows w.heap.size w'.heap.size w' a b vs zs ∧ Below w.heap.size w w'
/-- Two heaps, drawn. -/
def SomeHeaps (w : World) (e : Ending) (w' : World) : Prop :=
  ∃ a ca b cb vs zs, ∃ a2 ca2 b2 cb2 vs2 zs2, e = .returned (.tuple #[heV a vs.length ca b zs.length cb, heV a2 vs2.length ca2 b2 zs2.length cb2]) ∧ (vs.length = 3 ∧ zs.length ≤ 6 ∧ vs2.length = 3 ∧ zs2.length ≤ 6) ∧ (HeapAt w' a b vs zs ∧ HeapAt w' a2 b2 vs2 zs2) ∧ Below w.heap.size w w'
theorem two_ends {w W : World} {lo hi lo' hi' : Nat} {a b a2 b2 : Option Addr} {vs zs vs2 zs2 : List Int} (hB : Below w.heap.size w W) (hl : w.heap.size + 1 < lo) (hl' : w.heap.size + 1 < lo') (hin : HRows lo hi W a b vs zs) (hin' : HRows lo' hi' W a2 b2 vs2 zs2) (u0 u1 u2 u3 : Value) :
    (HeapAt ((((W.setCell ⟨w.heap.size, 0, none⟩ u0).setCell ⟨w.heap.size, 1, none⟩ u1).setCell ⟨w.heap.size + 1, 0, none⟩ u2).setCell ⟨w.heap.size + 1, 1, none⟩ u3) a b vs zs ∧ HeapAt ((((W.setCell ⟨w.heap.size, 0, none⟩ u0).setCell ⟨w.heap.size, 1, none⟩ u1).setCell ⟨w.heap.size + 1, 0, none⟩ u2).setCell ⟨w.heap.size + 1, 1, none⟩ u3) a2 b2 vs2 zs2) ∧
      Below w.heap.size w ((((W.setCell ⟨w.heap.size, 0, none⟩ u0).setCell ⟨w.heap.size, 1, none⟩ u1).setCell ⟨w.heap.size + 1, 0, none⟩ u2).setCell ⟨w.heap.size + 1, 1, none⟩ u3) :=
  have t1 : Turn w.heap.size (w.heap.size + 2) W ((W.setCell ⟨w.heap.size, 0, none⟩ u0).setCell ⟨w.heap.size, 1, none⟩ u1) := ((turn_set _ _ _ _).trans (turn_set _ _ _ _)).mono (Nat.le_refl _) (by omega)
  have t2 : Turn w.heap.size (w.heap.size + 2) ((W.setCell ⟨w.heap.size, 0, none⟩ u0).setCell ⟨w.heap.size, 1, none⟩ u1) ((((W.setCell ⟨w.heap.size, 0, none⟩ u0).setCell ⟨w.heap.size, 1, none⟩ u1).setCell ⟨w.heap.size + 1, 0, none⟩ u2).setCell ⟨w.heap.size + 1, 1, none⟩ u3) := ((turn_set _ _ _ _).trans (turn_set _ _ _ _)).mono (by omega) (by omega)
  have tq := t1.trans t2
  ⟨⟨(hin.turn tq (.inr (by omega))).at_, (hin'.turn tq (.inr (by omega))).at_⟩, Turn.below hB tq (Nat.le_refl _) hB.size⟩
end Go.Proofs.YtglcailcdcpadaaGreatDoor
