/-
  Heaps as values: two rows of numbers; an argument that is a heap, opened; the law's size guard, its copy, its comparison, its marks.
-/
import Derived.Test.YtplchhahjmoodaaDoorToInts
import Derived.Test.YtplchhahjmoodaaDoorEqInts
import Derived.Test.YtplchhahjmoodaaDoorMarkInts
import Derived.Test.YtplchhahjmoodaaDoorRep
import Derived.Lib.SmallJoins
import Derived.Deep.Slices
namespace Go.Proofs.YtplchhahjmoodaaDoor
open Go Go.Joins Go.ChangeShapes Go.WideShapes Go.ChangeAt Go.RowKit Go.Deep

abbrev heV (a : Option Addr) (n ca : Nat) (b : Option Addr) (m cb : Nat) : Value := .agg #[.slice a n ca, .slice b m cb]
theorem cellsB {W w1 : World} (hb : Below W.heap.size W w1) : (∀ b o, b < W.heap.size → w1.cell? ⟨b, o, none⟩ = W.cell? ⟨b, o, none⟩) ∧ (∀ b o, b < W.heap.size → w1.frozen? ⟨b, o, none⟩ = W.frozen? ⟨b, o, none⟩) :=
  ⟨fun b o h => hb.cell (p := ⟨b, o, none⟩) h, fun b o h => hb.frozen (p := ⟨b, o, none⟩) h⟩

/-- The two cells of a box. -/
abbrev Box2 (W : World) (g : Nat) (x y : Value) : Prop := W.cell? ⟨g, 0, none⟩ = some x ∧ W.cell? ⟨g, 1, none⟩ = some y
theorem Box2.keep {W W' : World} {g : Nat} {x y : Value} (h : Box2 W g x y) (hg : g < W.heap.size) (hb : Below W.heap.size W W') : Box2 W' g x y :=
  ⟨(hb.cell (p := ⟨g, 0, none⟩) hg).trans h.1, (hb.cell (p := ⟨g, 1, none⟩) hg).trans h.2⟩
theorem Box2.turn {lo hi : Nat} {W W' : World} {g : Nat} {x y : Value} (h : Box2 W g x y) (hg : g < W.heap.size) (t : Turn lo hi W W') (hd : g < lo ∨ hi ≤ g) : Box2 W' g x y :=
  ⟨(World.cell?_of_block (t.block g hg hd)).trans h.1, (World.cell?_of_block (t.block g hg hd)).trans h.2⟩
theorem one_box2 (w : World) (u0 u1 : Value) (t : TypeId) : ∃ W0, w.alloc (.cells #[u0, u1] t) = W0 ∧ Below w.heap.size w W0 ∧ w.heap.size < W0.heap.size ∧ Box2 W0 w.heap.size u0 u1 :=
  ⟨_, rfl, (Below.refl _ _).alloc (Nat.le_refl _) _, by simp, by simp [Box2, go_sem]⟩
theorem two_box2 (w : World) (u0 u1 v0 v1 : Value) (t t' : TypeId) : ∃ W0, (w.alloc (.cells #[u0, u1] t)).alloc (.cells #[v0, v1] t') = W0 ∧ Below w.heap.size w W0 ∧ w.heap.size + 1 < W0.heap.size ∧ Box2 W0 w.heap.size u0 u1 ∧ Box2 W0 (w.heap.size + 1) v0 v1 :=
  ⟨_, rfl, ((Below.refl _ _).alloc (Nat.le_refl _) _).alloc (by simp) _, by simp, by simp [Box2, go_sem], by simp [Box2, go_sem]⟩

/-- The rows of a heap: they may be read. -/
structure HeapAt (W : World) (a b : Option Addr) (vs zs : List Int) : Prop where
  v : Row W W.heap.size a (intVals vs)
  z : Row W W.heap.size b (intVals zs)
theorem HeapAt.again {W : World} {a b : Option Addr} {vs zs : List Int} (h : HeapAt W a b vs zs) (d : Nat) (os : Array Obj) : HeapAt (Go.Sort.grow (redrawn W d) os) a b vs zs := ⟨row_again h.v d os, row_again h.z d os⟩
theorem HeapAt.below {W W' : World} {B : Nat} {a b : Option Addr} {vs zs : List Int} (h : HeapAt W a b vs zs) (hb : Below B W W') (hB : W.heap.size ≤ B) : HeapAt W' a b vs zs :=
  ⟨(h.v.below (hb.mono hB)).grow hb.size, (h.z.below (hb.mono hB)).grow hb.size⟩
/-- A heap that a call made, in blocks from lo on, below hi: its rows may be written, and lie apart. -/
structure HeapIn (lo hi : Nat) (W : World) (a : Option Addr) (ca : Nat) (b : Option Addr) (cb : Nat) (vs zs : List Value) : Prop where
  v : OwnIn lo hi W 3 1 (.slice a vs.length ca) vs.length vs
  z : OwnIn lo hi W 3 1 (.slice b zs.length cb) zs.length zs
  apart : ∀ j, (Value.slice a vs.length ca).ownBlock = some j → (Value.slice b zs.length cb).ownBlock ≠ some j
section
variable {lo hi lo' hi' : Nat} {W W' : World} {a b : Option Addr} {ca cb : Nat}
theorem HeapIn.turn {vs zs : List Value} (h : HeapIn lo hi W a ca b cb vs zs) (t : Turn lo' hi' W W') (hd : hi ≤ lo' ∨ hi' ≤ lo) : HeapIn lo hi W' a ca b cb vs zs := ⟨h.v.turn t hd, h.z.turn t hd, h.apart⟩
theorem HeapIn.below {vs zs : List Value} (h : HeapIn lo hi W a ca b cb vs zs) (hb : Below W.heap.size W W') : HeapIn lo hi W' a ca b cb vs zs := ⟨h.v.below hb, h.z.below hb, h.apart⟩
theorem HeapIn.mono {vs zs : List Value} (h : HeapIn lo hi W a ca b cb vs zs) (h1 : lo' ≤ lo) (h2 : hi ≤ hi') (h3 : hi' ≤ W.heap.size) : HeapIn lo' hi' W a ca b cb vs zs := ⟨h.v.mono h1 h2 h3, h.z.mono h1 h2 h3, h.apart⟩
theorem HeapIn.rows {vs zs : List Int} (h : HeapIn lo hi W a ca b cb (intVals vs) (intVals zs)) : HeapAt W a b vs zs := ⟨h.v.row, h.z.row⟩
end

/-- A []int that lies in a struct, opened. -/
theorem open_nums_in {H : Type} {enc : TypeId × Value → H} {P : Program} {W : World} {t e : TypeId} {v : Value} {n : Nat} {y : DataW H × List MemPlace}
    (ht : P.underlying t = some (.slice e)) (he : P.underlying e = some (.int .i64)) (hc : P.cellsOf e = 1) (hlt : ∀ x ∈ y.2, x.block < W.heap.size)
    (h : DataW.trod enc P W 0 (fun _ => true) true n t [v] = some y) :
    ∃ (a : Option Addr) (cap : Nat) (ns : List Int), v = .slice a ns.length cap ∧ ns.length ≤ cap ∧ ns.length ≤ maxLen ∧ Row W W.heap.size a (intVals ns) ∧ (∀ n ∈ ns, -9223372036854775808 ≤ n ∧ n ≤ 9223372036854775807) := by
  rcases open_ints ht he hc h with ⟨hcs, hx⟩ | ⟨a, len, cap, ss, hcs, _, hl, hm, hz, hx, hcell, hws⟩
  · simp only [List.cons.injEq, and_true] at hcs
    subst hcs
    exact ⟨none, 0, [], rfl, Nat.le_refl _, Nat.zero_le _, Row.nil_, fun s hs => by simp at hs⟩
  · simp only [List.cons.injEq, and_true] at hcs
    subst hcs
    subst hx
    simp only [if_true] at hz
    have hlen : (ss.take len).length = len := by simp; omega
    refine ⟨some a, cap, ss.take len, by rw [hlen], by omega, by omega, ?_, fun s hs => i64_bounds (hws s (List.mem_of_mem_take hs))⟩
    intro k x hx
    obtain ⟨hk, rfl⟩ := List.getElem?_eq_some_iff.1 hx
    have hk' : k < len := by simpa [intVals, hz] using (Nat.lt_of_lt_of_le hk (by simp [intVals]; omega) : k < len)
    obtain ⟨b, off, spot⟩ := a
    have hspot : spot = none := by simpa [Addr.add] using World.cell?_spot (hcell 0 (by omega))
    subst hspot
    refine ⟨b, off, rfl, hlt (.cell b (off + 0)) (MemPlace.mem_row.2 ⟨0, by omega, by simp⟩), ?_⟩
    rw [← add_plain, hcell k (by omega)]
    have hk2 : k < ss.length := by omega
    simp [intVals, List.getD, hk2]

/-- What an argument's heap keeps. -/
structure HeapOk (W : World) (a b : Option Addr) (vs zs : List Int) : Prop where
  at_ : HeapAt W a b vs zs
  lv : vs.length ≤ maxLen
  lz : zs.length ≤ maxLen
  bv : ∀ n ∈ vs, -9223372036854775808 ≤ n ∧ n ≤ 9223372036854775807
  bz : ∀ n ∈ zs, -9223372036854775808 ≤ n ∧ n ≤ 9223372036854775807
/-- An argument that is a heap, opened. -/
theorem open_heap {H : Type} {enc : TypeId × Value → H} {P : Program} {W : World} {r : Reach} {b0 : Nat} {t : TypeId} {q0 q1 : Field} {v : Value} {d : DataW H} {p : List MemPlace} {e : TypeId}
    (hp : P.underlying t = some (.struct #[q0, q1])) (hone : oneCellFields P #[q0, q1] = true) (hCp : P.cellsOf t = 2)
    (hq0 : P.underlying q0.type = some (.slice e)) (hq1 : P.underlying q1.type = some (.slice e)) (he : P.underlying e = some (.int .i64)) (hce : P.cellsOf e = 1) (hlt : ∀ x ∈ p, x.block < W.heap.size)
    (hv : Value.okWide P W r b0 t v) (h : DataW.Trod enc P W 0 (fun _ => true) true t v d p) :
    ∃ (a : Option Addr) (ca : Nat) (vs : List Int) (b : Option Addr) (cb : Nat) (zs : List Int), v = heV a vs.length ca b zs.length cb ∧ HeapOk W a b vs zs := by
  obtain ⟨v0, v1, y0, y1, n, rfl, _, rfl, e0, e1⟩ := open_agg2 hp hone hCp hv h
  obtain ⟨a, ca, vs, rfl, _, l0, r0, w0⟩ := open_nums_in hq0 he hce (fun x hx => hlt x (by simp [hx])) e0
  obtain ⟨b, cb, zs, rfl, _, l1, r1, w1⟩ := open_nums_in hq1 he hce (fun x hx => hlt x (by simp [hx])) e1
  exact ⟨a, ca, vs, b, cb, zs, rfl, ⟨r0, r1⟩, l0, l1, w0, w1⟩

/-- The guard's answer over a row of numbers. -/
theorem szInts (a : Option Addr) (cap n : Nat) (left : Nat) (w : World) (hl : left ≤ 1099511627776) (hn : n ≤ maxLen) :
    Calls Tryd.prog 28 #[.slice a n cap, .int .i64 left] w fun e w' => ∃ r : Int, e = .returned (.int .i64 r) ∧ w = w' ∧ r ≤ left ∧ (0 ≤ r → (n : Int) + r = left) := by
  unfold maxLen at hn
  by_cases h0 : left < n
  · have hb : (left : Int) - n < 0 := by omega
    go_enter Tryd.func28, Tryd.ntmps28
    go_wp2
    go_ret
    exact ⟨-1, rfl, rfl, by omega, fun h => by omega⟩
  · have hb : ¬ (left : Int) - n < 0 := by omega
    go_enter Tryd.func28, Tryd.ntmps28
    go_wp2
    go_ret
    exact ⟨(left : Int) - n, rfl, rfl, by omega, fun h => by omega⟩
/-- A copy of a heap: two new rows. -/
def CopyHeap (vs zs : List Int) (w : World) (e : Ending) (w' : World) : Prop :=
  ∃ a b, e = .returned (heV a vs.length vs.length b zs.length zs.length) ∧ HeapIn w.heap.size w'.heap.size w' a vs.length b zs.length (intVals vs) (intVals zs) ∧ Below w.heap.size w w'
/-- Marks laid into a heap. -/
def MarkedHeap (lo hi k n m : Nat) (a b : Option Addr) (ca cb : Nat) (w : World) (e : Ending) (w' : World) : Prop :=
  e = .returned (.int .i64 ((k + n + m : Nat) : Int)) ∧ HeapIn lo hi w' a ca b cb (intVals (numsFrom k n)) (intVals (numsFrom (k + n) m)) ∧ Turn lo hi w w'
theorem HeapIn.marks {lo hi k n m : Nat} {W : World} {a b : Option Addr} {ca cb : Nat} (h : HeapIn lo hi W a ca b cb (intVals (numsFrom k n)) (intVals (numsFrom (k + n) m))) : HeapAt W a b (numsFrom k n) (numsFrom (k + n) m) := h.rows
/-- A row of numbers, compared, marked, looked at: in the words of intervals. -/
theorem eqRow (a b : Option Addr) (ca cb : Nat) (ns : List Int) (w : World) (hn : ns.length ≤ maxLen) (ha : Row w w.heap.size a (intVals ns)) (hb : Row w w.heap.size b (intVals ns)) :
    Calls Tryd.prog 41 #[.slice a ns.length ca, .slice b ns.length cb] w (GaveX (.bool true) w) :=
  (eqInts a b ca cb ns w hn ha hb).mono fun _ _ ⟨n, he, hw⟩ => ⟨he, hw ▸ below_draws (Below.refl _ _) n⟩
end Go.Proofs.YtplchhahjmoodaaDoor
