/-
  Heaps as values: two rows of numbers; an argument that is a heap, opened; the law's size guard, its copy, its comparison, its marks.
-/
import Derived.Test.YtpmmjaceehlpiaaToInts
import Derived.Test.YtpmmjaceehlpiaaEqInts
import Derived.Test.YtpmmjaceehlpiaaMarkInts
import Derived.Test.YtpmmjaceehlpiaaRep
import Derived.Lib.SmallJoins
import Derived.Deep.Slices
namespace Go.Proofs.Ytpmmjaceehlpiaa
open Go Go.Joins Go.ChangeShapes Go.WideShapes Go.ChangeAt Go.RowKit Go.Deep

abbrev heV (a : Option Addr) (n ca : Nat) (b : Option Addr) (m cb : Nat) : Value := .agg #[.slice a n ca, .slice b m cb]
theorem cellsB {W w1 : World} (hb : Below W.heap.size W w1) : (∀ b o, b < W.heap.size → w1.cell? ⟨b, o, none⟩ = W.cell? ⟨b, o, none⟩) ∧ (∀ b o, b < W.heap.size → w1.frozen? ⟨b, o, none⟩ = W.frozen? ⟨b, o, none⟩) :=
  ⟨fun b o h => hb.cell (p := ⟨b, o, none⟩) h, fun b o h => hb.frozen (p := ⟨b, o, none⟩) h⟩

/-- The two cells of a box. -/
abbrev Box2 (W : World) (g : Nat) (x y : Value) : Prop := W.cell? ⟨g, 0, none⟩ = some x ∧ W.cell? ⟨g, 1, none⟩ = some y
theorem Box2.keep {W W' : World} {g : Nat} {x y : Value} (h : Box2 W g x y) (hg : g < W.heap.size) (hb : Below W.heap.size W W') : Box2 W' g x y :=
  ⟨(hb.cell (p := ⟨g, 0, none⟩) hg).trans h.1, (hb.cell (p := ⟨g, 1, none⟩) hg).trans h.2⟩
theorem Box2.turn {lo hi : Nat} {W W' : World} {g : Nat} {x y : Value} (h : Box2 W g x y) (hg : g < W.heap.size) (t : Turn lo hi W W') (hd : g < lo ∨ hi ≤ g) : Box2 W' g x y :=
  ⟨(World.cell?_of_block (t.block g hg hd)).trans h.1, (World.cell?_of_block (t.block g hg hd)).trans h.2⟩
theorem one_box2 (w : World) (u0 u1 : Value) (t : TypeId) : ∃ W0, w.alloc (.cells #[u0, u1] t) = W0 ∧ Below w.heap.size w W0 ∧ w.heap.size < W0.heap.size ∧ Box2 W0 w.heap.size u0 u1 :=
  ⟨_, rfl, (Below.refl _ _).alloc (Nat.le_refl _) _, by simp, by simp [Box2, go_sem]⟩
theorem two_box2 (w : World) (u0 u1 v0 v1 : Value) (t t' : TypeId) : ∃ W0, (w.alloc (.cells #[u0, u1] t)).alloc (.cells #[v0, v1] t') = W0 ∧ Below w.heap.size w W0 ∧ w.heap.size + 1 < W0.heap.size ∧ Box2 W0 w.heap.size u0 u1 ∧ Box2 W0 (w.heap.size + 1) v0 v1 :=
  ⟨_, rfl, ((Below.refl _ _).alloc (Nat.le_refl _) _).alloc (by simp) _, by simp, by simp [Box2, go_sem], by simp [Box2, go_sem]⟩

/-- The rows of a heap: they may be read. -/
structure HeapAt (W : World) (a b : Option Addr) (vs zs : List Int) : Prop where
  v : Row W W.heap.size a (intVals vs)
  z : Row W W.heap.size b (intVals zs)
theorem HeapAt.again {W : World} {a b : Option Addr} {vs zs : List Int} (h : HeapAt W a b vs zs) (d : Nat) (os : Array Obj) : HeapAt (Go.Sort.grow (redrawn W d) os) a b vs zs := ⟨row_again h.v d os, row_again h.z d os⟩
theorem HeapAt.below {W W' : World} {B : Nat} {a b : Option Addr} {vs zs : List Int} (h : HeapAt W a b vs zs) (hb : Below B W W') (hB : W.heap.size ≤ B) : HeapAt W' a b vs zs :=
  ⟨(h.v.below (hb.mono hB)).grow hb.size, (h.z.below (hb.mono hB)).grow hb.size⟩
/-- A heap that a call made, in blocks from lo on, below hi: its rows may be written, and lie apart. -/
structure HeapIn (lo hi : Nat) (W : World) (a : Option Addr) (ca : Nat) (b : Option Addr) (cb : Nat) (vs zs : List Value) : Prop where
  v : OwnIn lo hi W 3 1 (.slice a vs.length ca) vs.length vs
  z : OwnIn lo hi W 3 1 (.slice b zs.length cb) zs.length zs
  apart : ∀ j, (Value.slice a vs.length ca).ownBlock = some j → (Value.slice b zs.length cb).ownBlock ≠ some j
section
variable {lo hi lo' hi' : Nat} {W W' : World} {a b : Option Addr} {ca cb : Nat}
theorem HeapIn.turn {vs zs : List Value} (h : HeapIn lo hi W a ca b cb vs zs) (t : Turn lo' hi' W W') (hd : hi ≤ lo' ∨ hi' ≤ lo) : HeapIn lo hi W' a ca b cb vs zs := ⟨h.v.turn t hd, h.z.turn t hd, h.apart⟩
theorem HeapIn.below {vs zs : List Value} (h : HeapIn lo hi W a ca b cb vs zs) (hb : Below W.heap.size W W') : HeapIn lo hi W' a ca b cb vs zs := ⟨h.v.below hb, h.z.below hb, h.apart⟩
theorem HeapIn.mono {vs zs : List Value} (h : HeapIn lo hi W a ca b cb vs zs) (h1 : lo' ≤ lo) (h2 : hi ≤ hi') (h3 : hi' ≤ W.heap.size) : HeapIn lo' hi' W a ca b cb vs zs := ⟨h.v.mono h1 h2 h3, h.z.mono h1 h2 h3, h.apart⟩
theorem HeapIn.rows {vs zs : List Int} (h : HeapIn lo hi W a ca b cb (intVals vs) (intVals zs)) : HeapAt W a b vs zs := ⟨h.v.row, h.z.row⟩
end

/-- A []int that lies in a struct, opened. -/
theorem open_nums_in {H : Type} {enc : TypeId × Value → H} {P : Program} {W : World} {t e : TypeId} {v : Value} {n : Nat} {y : DataW H × List MemPlace}
    (ht : P.underlying t = some (.slice e)) (he : P.underlying e = some (.int .i64)) (hc : P.cellsOf e = 1) (hlt : ∀ x ∈ y.2, x.block < W.heap.size)
    (h : DataW.trod enc P W 0 (fun _ => true) true n t [v] = some y) :
    ∃ (a : Option Addr) (cap : Nat) (ns : List Int), v = .slice a ns.length cap ∧ ns.length ≤ cap ∧ ns.length ≤ maxLen ∧ Row W W.heap.size a (intVals ns) ∧ (∀ n ∈ ns, -9223372036854775808 ≤ n ∧ n ≤ 9223372036854775807) := by
  rcases open_ints ht he hc h with ⟨hcs, hx⟩ | ⟨a, len, cap, ss, hcs, _, hl, hm, hz, hx, hcell, hws⟩
  · simp only [List.cons.injEq, and_true] at hcs
    subst hcs
    exact ⟨none, 0, [], rfl, Nat.le_refl _, Nat.zero_le _, Row.nil_, fun s hs => by simp at hs⟩
  · simp only [List.cons.injEq, and_true] at hcs
    subst hcs
    subst hx
    simp only [if_true] at hz
    have hlen : (ss.take len).length = len := by simp; omega
    refine ⟨some a, cap, ss.take len, by rw [hlen], by omega, by omega, ?_, fun s hs => i64_bounds (hws s (List.mem_of_mem_take hs))⟩
    intro k x hx
    obtain ⟨hk, rfl⟩ := List.getElem?_eq_some_iff.1 hx
    have hk' : k < len := by simpa [intVals, hz] using (Nat.lt_of_lt_of_le hk (by simp [intVals]; omega) : k < len)
    obtain ⟨b, off, spot⟩ := a
    have hspot : spot = none := by simpa [Addr.add] using World.cell?_spot (hcell 0 (by omega))
    subst hspot
    refine ⟨b, off, rfl, hlt (.cell b (off + 0)) (MemPlace.mem_row.2 ⟨0, by omega, by simp⟩), ?_⟩
    rw [← add_plain, hcell k (by omega)]
    have hk2 : k < ss.length := by omega
    simp [intVals, List.getD, hk2]

/-- What an argument's heap keeps. -/
structure HeapOk (W : World) (a b : Option Addr) (vs zs : List Int) : Prop where
  at_ : HeapAt W a b vs zs
  lv : vs.length ≤ maxLen
  lz : zs.length ≤ maxLen
  bv : ∀ n ∈ vs, -9223372036854775808 ≤ n ∧ n ≤ 9223372036854775807
  bz : ∀ n ∈ zs, -9223372036854775808 ≤ n ∧ n ≤ 9223372036854775807
/-- An argument that is a heap, opened. -/
theorem open_heap {H : Type} {enc : TypeId × Value → H} {P : Program} {W : World} {r : Reach} {b0 : Nat} {t : TypeId} {q0 q1 : Field} {v : Value} {d : DataW H} {p : List MemPlace} {e : TypeId}
    (hp : P.underlying t = some (.struct #[q0, q1])) (hone : oneCellFields P #[q0, q1] = true) (hCp : P.cellsOf t = 2)
    (hq0 : P.underlying q0.type = some (.slice e)) (hq1 : P.underlying q1.type = some (.slice e)) (he : P.underlying e = some (.int .i64)) (hce : P.cellsOf e = 1) (hlt : ∀ x ∈ p, x.block < W.heap.size)
    (hv : Value.okWide P W r b0 t v) (h : DataW.Trod enc P W 0 (fun _ => true) true t v d p) :
    ∃ (a : Option Addr) (ca : Nat) (vs : List Int) (b : Option Addr) (cb : Nat) (zs : List Int), v = heV a vs.length ca b zs.length cb ∧ HeapOk W a b vs zs := by
  obtain ⟨v0, v1, y0, y1, n, rfl, _, rfl, e0, e1⟩ := open_agg2 hp hone hCp hv h
  obtain ⟨a, ca, vs, rfl, _, l0, r0, w0⟩ := open_nums_in hq0 he hce (fun x hx => hlt x (by simp [hx])) e0
  obtain ⟨b, cb, zs, rfl, _, l1, r1, w1⟩ := open_nums_in hq1 he hce (fun x hx => hlt x (by simp [hx])) e1
  exact ⟨a, ca, vs, b, cb, zs, rfl, ⟨r0, r1⟩, l0, l1, w0, w1⟩

/-- The guard's answer over a row of numbers. -/
theorem szInts (a : Option Addr) (cap n : Nat) (left : Nat) (w : World) (hl : left ≤ 1099511627776) (hn : n ≤ maxLen) :
    Calls Try.prog 34 #[.slice a n cap, .int .i64 left] w fun e w' => ∃ r : Int, e = .returned (.int .i64 r) ∧ w = w' ∧ r ≤ left ∧ (0 ≤ r → (n : Int) + r = left) := by
  unfold maxLen at hn
  by_cases h0 : left < n
  · have hb : (left : Int) - n < 0 := by omega
    go_enter Try.func34, Try.ntmps34
    go_wp2
    go_ret
    exact ⟨-1, rfl, rfl, by omega, fun h => by omega⟩
  · have hb : ¬ (left : Int) - n < 0 := by omega
    go_enter Try.func34, Try.ntmps34
    go_wp2
    go_ret
    exact ⟨(left : Int) - n, rfl, rfl, by omega, fun h => by omega⟩
/-- .. over a heap. -/
theorem szHeap (a b : Option Addr) (ca cb n m : Nat) (left : Nat) (w : World) (hl : left ≤ 1099511627776) (hn : n ≤ maxLen) (hm : m ≤ maxLen) :
    Calls Try.prog 23 #[heV a n ca b m cb, .int .i64 left] w fun e w' => ∃ r : Int, e = .returned (.int .i64 r) ∧ Below w.heap.size w w' ∧ r ≤ left ∧ (0 ≤ r → (n : Int) + m + r = left) := by
  go_enter Try.func23, Try.ntmps23
  go_wp2_with fail
  obtain ⟨W0, hW0, hb0, hs0, hA0⟩ := one_box2 w (.slice a n ca) (.slice b m cb) 29
  rw [hW0]
  clear hW0
  obtain ⟨c0, c1⟩ := hA0
  refine (szInts a ca n left _ hl hn).mono ?_
  rintro e w1 ⟨r, rfl, rfl, hr, hok⟩
  by_cases hneg : r < 0
  · go_wp2
    go_ret
    exact ⟨-1, rfl, hb0, by omega, fun h => by omega⟩
  · obtain ⟨r', rfl⟩ : ∃ r' : Nat, r = (r' : Int) := ⟨r.toNat, by omega⟩
    have Hok := Lib.hid (hok (by omega))
    clear hok
    go_wp2_with fail
    refine (szInts b cb m r' _ (by omega) hm).mono ?_
    rintro e w1 ⟨r2, rfl, rfl, hr2, hok2⟩
    have Hok2 := Lib.hid hok2
    clear hok2
    by_cases hneg2 : r2 < 0
    · go_wp2
      go_ret
      exact ⟨-1, rfl, hb0, by omega, fun h => by omega⟩
    · go_wp2
      go_ret
      have h1 := Hok.out
      exact ⟨r2, rfl, hb0, by omega, fun h => by have h2 := Hok2.out h; omega⟩

/-- A copy of a heap: two new rows. -/
def CopyHeap (vs zs : List Int) (w : World) (e : Ending) (w' : World) : Prop :=
  ∃ a b, e = .returned (heV a vs.length vs.length b zs.length zs.length) ∧ HeapIn w.heap.size w'.heap.size w' a vs.length b zs.length (intVals vs) (intVals zs) ∧ Below w.heap.size w w'
set_option maxHeartbeats 800000 in
theorem toHeap (a b : Option Addr) (ca cb : Nat) (vs zs : List Int) (w : World) (hn : vs.length ≤ 1099511627776) (hm : zs.length ≤ 1099511627776) (h : HeapAt w a b vs zs) :
    Calls Try.prog 25 #[heV a vs.length ca b zs.length cb] w (CopyHeap vs zs w) := by
  have key : ∀ W, Below w.heap.size w W → HeapAt W a b vs zs := fun W hb => h.below hb (Nat.le_refl _)
  go_enter Try.func25, Try.ntmps25
  go_wp2_with fail
  refine (toInts a ca vs _ hn (key _ ?_).v).mono ?_
  · repeat (first | exact Below.refl _ _ | refine Below.alloc ?_ (by simp <;> omega) _ | refine Below.setCell ?_ (by simp <;> omega) _)
  rintro e w1 ⟨rfl, ho1, hb1⟩
  obtain ⟨hc, hf⟩ := cellsB hb1
  have hz := hb1.size
  simp at hz
  have hB1 : Below w.heap.size w w1 := by
    refine Below.trans ?_ (hb1.mono (by simp <;> omega))
    repeat (first | with_reducible exact Below.refl _ _ | with_reducible refine Below.alloc ?_ (by simp <;> omega) _ | with_reducible refine Below.setCell ?_ (by simp <;> omega) _)
  have Ho1 := Lib.hid ho1
  clear ho1
  go_wp2_with fail
  refine (toInts b cb zs _ hm (key _ ?_).z).mono ?_
  · repeat (first | with_reducible exact hB1 | with_reducible refine Below.alloc ?_ (by simp <;> omega) _ | with_reducible refine Below.setCell ?_ (by simp <;> omega) _)
  rintro e w2 ⟨rfl, ho2, hb2⟩
  obtain ⟨hc2, hf2⟩ := cellsB hb2
  have hz2 := hb2.size
  simp at hz2
  have d0 : w2.cell? ⟨w.heap.size + 1 + 1, 0, none⟩ = some (.slice (some ⟨w.heap.size + 1 + 1 + 1, 0, none⟩) vs.length vs.length) := by
    rw [hc2 _ _ (by simp; omega)]
    simp [hc, go_sem]
  have d1 : w2.cell? ⟨w.heap.size + 1 + 1, 1, none⟩ = some (.slice none 0 0) := by
    rw [hc2 _ _ (by simp; omega)]
    simp [hc, go_sem]
  have d3 : w2.frozen? ⟨w.heap.size + 1 + 1, 1, none⟩ = false := by
    rw [hf2 _ _ (by simp; omega)]
    simp [hf, go_sem]
  have r0 : w2.cell? ⟨w.heap.size + 1, 0, none⟩ = some (.slice none 0 0) := by
    rw [hc2 _ _ (by simp; omega)]
    simp [hc, go_sem]
  have r1 : w2.cell? ⟨w.heap.size + 1, 1, none⟩ = some (.slice none 0 0) := by
    rw [hc2 _ _ (by simp; omega)]
    simp [hc, go_sem]
  have r3 : ∀ o, w2.frozen? ⟨w.heap.size + 1, o, none⟩ = false := by
    intro o
    rw [hf2 _ _ (by simp; omega)]
    simp [hf, go_sem]
  have hB2 : Below w.heap.size w w2 := by
    refine Below.trans ?_ (hb2.mono (by simp <;> omega))
    repeat (first | with_reducible exact hB1 | with_reducible refine Below.setCell ?_ (by simp <;> omega) _)
  have hk2 : w2.ownsRow (w.heap.size + 1 + 1 + 1) 3 1 (.slice (some ⟨w.heap.size + 1 + 1 + 1, 0, none⟩) vs.length vs.length) vs.length (intVals vs) := by
    have h0 : w1.ownsRow (w.heap.size + 1 + 1 + 1) 3 1 (.slice (some ⟨w.heap.size + 1 + 1 + 1, 0, none⟩) vs.length vs.length) vs.length (intVals vs) := by simpa using Ho1.out
    have h1 := ownsRow_setCell_below h0 (a := ⟨w.heap.size + 1 + 1, 0, none⟩) (Nat.lt_succ_self _) (.slice (some ⟨w.heap.size + 1 + 1 + 1, 0, none⟩) vs.length vs.length)
    exact own_keeps h1 hb2
  have hE2 := ho2
  simp only [World.size_setCell] at hE2
  have hlt : w.heap.size + 1 + 1 + 1 < w1.heap.size := by
    have := Ho1.out.lt _ rfl
    simpa using this.2
  have HE2 := Lib.hid hE2
  have HK2 := Lib.hid hk2
  clear hE2 hk2 ho2 Ho1 hc hc2 hf hf2 hz hz2
  go_wp2
  refine bodyPost_ret (v := heV (some ⟨w.heap.size + 1 + 1 + 1, 0, none⟩) vs.length vs.length (some ⟨w1.heap.size, 0, none⟩) zs.length zs.length) (by simp [results, Try.results25, go_sem, r0, r1]) rfl ⟨_, _, rfl, ?_, ?_⟩
  · have e1 := intVals_length vs
    have e2 := intVals_length zs
    refine ⟨?_, ?_, ?_⟩
    · rw [e1]
      refine OwnIn.mono (OwnIn.of (lo := w.heap.size + 1 + 1 + 1) ?_) (by omega) (Nat.le_refl _) (Nat.le_refl _)
      repeat (first | with_reducible exact HK2.out | with_reducible refine ownsRow_setCell_below ?_ (by simp <;> omega) _)
    · rw [e2]
      refine OwnIn.mono (OwnIn.of (lo := w1.heap.size) ?_) (by omega) (Nat.le_refl _) (Nat.le_refl _)
      repeat (first | with_reducible exact HE2.out | with_reducible refine ownsRow_setCell_below ?_ (by simp <;> omega) _)
    · intro j h1 h2
      simp only [Value.ownBlock, Option.some.injEq] at h1 h2
      omega
  · repeat (first | with_reducible exact hB2 | with_reducible refine Below.setCell ?_ (by simp <;> omega) _)

/-- Two heaps that hold the same compare as equal. -/
theorem eqHeaps (a b c d : Option Addr) (ca cb cc cd : Nat) (vs zs : List Int) (w : World) (hn : vs.length ≤ maxLen) (hm : zs.length ≤ maxLen) (h : HeapAt w a b vs zs) (h' : HeapAt w c d vs zs) :
    Calls Try.prog 20 #[heV a vs.length ca b zs.length cb, heV c vs.length cc d zs.length cd] w (GaveX (.bool true) w) := by
  have key : ∀ W, Below w.heap.size w W → HeapAt W a b vs zs ∧ HeapAt W c d vs zs := fun W hb => ⟨h.below hb (Nat.le_refl _), h'.below hb (Nat.le_refl _)⟩
  go_enter Try.func20, Try.ntmps20
  go_wp2_with fail
  obtain ⟨W0, hW0, hb0, hs0, ⟨c0, c1⟩, ⟨c2, c3⟩⟩ := two_box2 w (.slice a vs.length ca) (.slice b zs.length cb) (.slice c vs.length cc) (.slice d zs.length cd) 34 34
  rw [hW0]
  clear hW0
  refine (eqInts a c ca cc vs _ hn (key _ hb0).1.v (key _ hb0).2.v).mono ?_
  rintro e w1 ⟨d1, rfl, rfl⟩
  have hB1 : Below w.heap.size w (W0.drewN d1) := below_draws hb0 _
  go_wp2_with fail
  refine (eqInts b d cb cd zs _ hm (key _ hB1).1.z (key _ hB1).2.z).mono ?_
  rintro e w2 ⟨d2, rfl, rfl⟩
  go_wp2
  go_ret
  exact ⟨rfl, below_draws hb0 _⟩

/-- Marks laid into a heap. -/
def MarkedHeap (lo hi k n m : Nat) (a b : Option Addr) (ca cb : Nat) (w : World) (e : Ending) (w' : World) : Prop :=
  e = .returned (.int .i64 ((k + n + m : Nat) : Int)) ∧ HeapIn lo hi w' a ca b cb (intVals (numsFrom k n)) (intVals (numsFrom (k + n) m)) ∧ Turn lo hi w w'
theorem HeapIn.marks {lo hi k n m : Nat} {W : World} {a b : Option Addr} {ca cb : Nat} (h : HeapIn lo hi W a ca b cb (intVals (numsFrom k n)) (intVals (numsFrom (k + n) m))) : HeapAt W a b (numsFrom k n) (numsFrom (k + n) m) := h.rows
/-- A row of numbers, compared, marked, looked at: in the words of intervals. -/
theorem eqRow (a b : Option Addr) (ca cb : Nat) (ns : List Int) (w : World) (hn : ns.length ≤ maxLen) (ha : Row w w.heap.size a (intVals ns)) (hb : Row w w.heap.size b (intVals ns)) :
    Calls Try.prog 33 #[.slice a ns.length ca, .slice b ns.length cb] w (GaveX (.bool true) w) :=
  (eqInts a b ca cb ns w hn ha hb).mono fun _ _ ⟨n, he, hw⟩ => ⟨he, hw ▸ below_draws (Below.refl _ _) n⟩
theorem markRow (lo hi k n : Nat) (a : Option Addr) (ca : Nat) (xs : List Value) (w : World) (hn : n ≤ 54975581388) (hk : k ≤ 54975581388) (h : OwnIn lo hi w 3 1 (.slice a n ca) n xs) :
    Calls Try.prog 21 #[.slice a n ca, .int .i64 k] w fun e w' => e = .returned (.int .i64 ((k + n : Nat) : Int)) ∧ OwnIn lo hi w' 3 1 (.slice a n ca) n (intVals (numsFrom k n)) ∧ Turn lo hi w w' :=
  (markInts lo k n a ca xs w (by omega) (by omega) h.2.1).mono fun _ _ ⟨he, ho, hg⟩ => ⟨he, h.again (Nat.le_trans h.1 hg.size) ho, h.grows hg⟩
theorem heldRow (k n : Nat) (a : Option Addr) (ca : Nat) (w : World) (hn : n ≤ 54975581388) (hk : k ≤ 54975581388) (h : Row w w.heap.size a (intVals (numsFrom k n))) :
    Calls Try.prog 22 #[.slice a n ca, .int .i64 k] w (GaveX (.int .i64 ((k + n : Nat) : Int)) w) :=
  (heldInts k n a ca w (by omega) (by omega) h).mono fun _ _ ⟨he, hw⟩ => ⟨he, hw ▸ Below.refl _ _⟩
end Go.Proofs.Ytpmmjaceehlpiaa
