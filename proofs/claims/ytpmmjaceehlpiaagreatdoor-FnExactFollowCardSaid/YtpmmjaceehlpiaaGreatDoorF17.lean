/-
  Several texts of one proof in one file, in the order in which they build.
-/
import Derived.Lib.SmallJoins
import Derived.Deep.Slices
import Derived.Deep.RegionHeld3
import Derived.Test.YtpmmjaceehlpiaaGreatDoorF01
import Derived.Test.YtpmmjaceehlpiaaGreatDoorF04
import Derived.Test.YtpmmjaceehlpiaaGreatDoorF11
import Derived.Test.YtpmmjaceehlpiaaGreatDoorF16
/-
  Edges: rows of structs of five cells (two points, a statement of a kind and two names), programs as values; an argument that is a program, opened. Nothing here knows of the program's text.
-/
namespace Go.Proofs.YtpmmjaceehlpiaaGreatDoor
open Go Go.Joins Go.ChangeShapes Go.WideShapes Go.ChangeAt Go.RowKit Go.Deep

structure Ed where
  f : Int
  t : Int
  k : Int
  a : ByteArray
  b : ByteArray
  deriving DecidableEq
abbrev edV (f t k : Int) (a b : ByteArray) : Value := .agg #[.int .i64 f, .int .i64 t, .int .i64 k, .string a, .string b]
def edCells (x : Ed) : List Value := [.int .i64 x.f, .int .i64 x.t, .int .i64 x.k, .string x.a, .string x.b]
def edVals (es : List Ed) : List Value := es.flatMap edCells
theorem edCells_length (x : Ed) : (edCells x).length = 5 := rfl
theorem edVals_cons (x : Ed) (es : List Ed) : edVals (x :: es) = edCells x ++ edVals es := rfl
theorem edVals_nil : edVals [] = [] := rfl
theorem edVals_length : ∀ es : List Ed, (edVals es).length = es.length * 5
  | [] => rfl
  | x :: es => by rw [edVals_cons, List.length_append, edVals_length es, edCells_length, List.length_cons]; omega
theorem edVals_append (a b : List Ed) : edVals (a ++ b) = edVals a ++ edVals b := by simp [edVals]
theorem edVals_snoc (l : List Ed) (x : Ed) : edVals (l ++ [x]) = edVals l ++ edCells x := by simp [edVals]
theorem edVals_at : ∀ (es : List Ed) (i : Nat) (h : i < es.length) (j : Nat), j < 5 → (edVals es)[i * 5 + j]? = (edCells es[i])[j]?
  | x :: es, 0, _, j, hj => by
    rw [edVals_cons, List.getElem?_append_left (by rw [edCells_length]; omega)]
    simp
  | x :: es, i + 1, h, j, hj => by
    have h' : i < es.length := by simpa using h
    rw [edVals_cons, List.getElem?_append_right (by rw [edCells_length]; omega), edCells_length, show (i + 1) * 5 + j - 5 = i * 5 + j by omega, edVals_at es i h' j hj]
    simp
theorem edVals_one (es : List Ed) : ∀ u ∈ edVals es, u.oneCell' = true := by
  intro u hu
  obtain ⟨x, _, h⟩ := List.mem_flatMap.1 hu
  simp [edCells] at h
  rcases h with rfl | rfl | rfl | rfl | rfl <;> rfl

/-- The five cells of an edge in a row. -/
structure EdAt (w : World) (b o : Nat) (x : Ed) : Prop where
  f : w.cell? ⟨b, o, none⟩ = some (.int .i64 x.f)
  t : w.cell? ⟨b, o + 1, none⟩ = some (.int .i64 x.t)
  k : w.cell? ⟨b, o + 2, none⟩ = some (.int .i64 x.k)
  a : w.cell? ⟨b, o + 3, none⟩ = some (.string x.a)
  b : w.cell? ⟨b, o + 4, none⟩ = some (.string x.b)
theorem Row.edge {w : World} {B : Nat} {a : Option Addr} {es : List Ed} (h : Row w B a (edVals es)) (i : Nat) (hi : i < es.length) : ∃ b o, a = some ⟨b, o, none⟩ ∧ b < B ∧ EdAt w b (o + i * 5) es[i] := by
  have g := fun j (hj : j < 5) => h (i * 5 + j) _ ((edVals_at es i hi j hj).trans (List.getElem?_eq_getElem (by rw [edCells_length]; exact hj)))
  obtain ⟨b, o, rfl, hb, h0⟩ := g 0 (by omega)
  refine ⟨b, o, rfl, hb, ?_⟩
  have g' := fun j (hj : j < 5) => (g j hj)
  have at_ : ∀ j (hj : j < 5), w.cell? ⟨b, o + (i * 5 + j), none⟩ = some ((edCells es[i])[j]'(by rw [edCells_length]; exact hj)) := by
    intro j hj
    obtain ⟨b', o', e, _, hc⟩ := g j hj
    injection e with e
    injection e with e1 e2 _
    subst e1 e2
    exact hc
  exact ⟨by simpa [edCells] using at_ 0 (by omega), by simpa [edCells, Nat.add_assoc] using at_ 1 (by omega), by simpa [edCells, Nat.add_assoc] using at_ 2 (by omega), by simpa [edCells, Nat.add_assoc] using at_ 3 (by omega), by simpa [edCells, Nat.add_assoc] using at_ 4 (by omega)⟩
theorem EdAt.keeps {w w' : World} {b o : Nat} {x : Ed} (h : EdAt w b o x) (hk : ∀ o', w'.cell? ⟨b, o', none⟩ = w.cell? ⟨b, o', none⟩) : EdAt w' b o x :=
  ⟨(hk _).trans h.f, (hk _).trans h.t, (hk _).trans h.k, (hk _).trans h.a, (hk _).trans h.b⟩
theorem EdAt.below {w w' : World} {B b o : Nat} {x : Ed} (h : EdAt w b o x) (hB : Below B w w') (hb : b < B) : EdAt w' b o x :=
  h.keeps fun _ => hB.cell (p := ⟨b, _, none⟩) hb

/-- A row of edges, read off its cells. -/
theorem Row.of_edges {w : World} {B : Nat} {b o : Nat} {es : List Ed} (hb : b < B) (h : ∀ i (hi : i < es.length), EdAt w b (o + i * 5) es[i]) : Row w B (some ⟨b, o, none⟩) (edVals es) := by
  intro k x hx
  have hk : k < es.length * 5 := by
    have := (List.getElem?_eq_some_iff.1 hx).1
    rwa [edVals_length] at this
  have hdiv : k / 5 < es.length := by omega
  have hk5 : k / 5 * 5 + k % 5 = k := by omega
  have hm : k % 5 < 5 := Nat.mod_lt _ (by omega)
  rw [← hk5, edVals_at es (k / 5) hdiv (k % 5) hm] at hx
  refine ⟨b, o, rfl, hb, ?_⟩
  have hE := h (k / 5) hdiv
  rw [← hk5, ← Nat.add_assoc]
  generalize k / 5 = i at *
  match k % 5, hm, hx with
  | 0, _, hx => simp [edCells] at hx; subst hx; exact hE.f
  | 1, _, hx => simp [edCells] at hx; subst hx; exact hE.t
  | 2, _, hx => simp [edCells] at hx; subst hx; exact hE.k
  | 3, _, hx => simp [edCells] at hx; subst hx; exact hE.a
  | 4, _, hx => simp [edCells] at hx; subst hx; exact hE.b

/-- The bounds that an argument's edge keeps. -/
structure Ed.Ok (x : Ed) : Prop where
  f : -9223372036854775808 ≤ x.f ∧ x.f ≤ 9223372036854775807
  t : -9223372036854775808 ≤ x.t ∧ x.t ≤ 9223372036854775807
  k : -9223372036854775808 ≤ x.k ∧ x.k ≤ 9223372036854775807
  a : x.a.size ≤ maxLen
  b : x.b.size ≤ maxLen
def edTotal (es : List Ed) : Nat := (es.map fun x => x.a.size + x.b.size).sum
theorem edTotal_next (es : List Ed) (k : Nat) (h : k < es.length) : edTotal (es.take (k + 1)) = edTotal (es.take k) + (es[k].a.size + es[k].b.size) := by
  unfold edTotal
  rw [take_next es k h, List.map_append, List.sum_append, List.map_cons, List.map_nil, List.sum_cons, List.sum_nil, Nat.add_zero]

/-- One edge's cells, opened. -/
theorem open_edge {H : Type} {enc : TypeId × Value → H} {P : Program} {w : World} {base : Nat} {spare : Nat → Bool} {held : Bool} {t : TypeId} {fuel : Nat} {cs : List Value} {x : DataW H × List MemPlace} {f0 f1 f2 g0 g1 g2 : Field}
    (hs : P.underlying t = some (.struct #[f0, f1, f2])) (hC : P.cellsOf t = 5) (h0 : P.underlying f0.type = some (.int .i64)) (h1 : P.underlying f1.type = some (.int .i64)) (h2 : P.underlying f2.type = some (.struct #[g0, g1, g2]))
    (hoff : (f0.offset, f1.offset, f2.offset, g0.offset, g1.offset, g2.offset) = (0, 1, 2, 0, 1, 2)) (hcs : (P.cellsOf f0.type, P.cellsOf f1.type, P.cellsOf f2.type, P.cellsOf g0.type, P.cellsOf g1.type, P.cellsOf g2.type) = (1, 1, 3, 1, 1, 1))
    (k0 : P.underlying g0.type = some (.int .i64)) (k1 : P.underlying g1.type = some .string) (k2 : P.underlying g2.type = some .string)
    (h : DataW.trod enc P w base spare held fuel t cs = some x) : ∃ y : Ed, cs = edCells y ∧ y.Ok := by
  simp only [Prod.mk.injEq] at hoff hcs
  obtain ⟨o0, o1, o2, p0, p1, p2⟩ := hoff
  obtain ⟨c0, c1, c2, d0, d1, d2⟩ := hcs
  obtain ⟨xs, n, _, _, hl, hlen, hg⟩ := DataW.trod_struct hs h
  rw [hC] at hl
  match cs, hl with
  | [v0, v1, v2, v3, v4], _ =>
    match xs, hlen with
    | [y0, y1, y2], _ =>
      have e0 := hg 0 f0 rfl
      have e1 := hg 1 f1 rfl
      have e2 := hg 2 f2 rfl
      rw [o0, c0] at e0
      rw [o1, c1] at e1
      rw [o2, c2] at e2
      simp only [List.drop, List.take] at e0 e1 e2
      obtain ⟨a0, q0, _, w0⟩ := DataW.trod_int h0 (e0.trans rfl)
      obtain ⟨a1, q1, _, w1⟩ := DataW.trod_int h1 (e1.trans rfl)
      obtain ⟨zs, m, _, _, _, hlen2, hg2⟩ := DataW.trod_struct h2 (e2.trans rfl)
      match zs, hlen2 with
      | [z0, z1, z2], _ =>
        have u0 := hg2 0 g0 rfl
        have u1 := hg2 1 g1 rfl
        have u2 := hg2 2 g2 rfl
        rw [p0, d0] at u0
        rw [p1, d1] at u1
        rw [p2, d2] at u2
        simp only [List.drop, List.take] at u0 u1 u2
        obtain ⟨a2, q2, _, w2⟩ := DataW.trod_int k0 (u0.trans rfl)
        obtain ⟨a3, q3, _, w3⟩ := DataW.trod_string k1 (u1.trans rfl)
        obtain ⟨a4, q4, _, w4⟩ := DataW.trod_string k2 (u2.trans rfl)
        simp only [List.cons.injEq, and_true] at q0 q1 q2 q3 q4
        subst q0 q1 q2 q3 q4
        exact ⟨⟨a0, a1, a2, a3, a4⟩, rfl, ⟨i64_bounds w0, i64_bounds w1, i64_bounds w2, w3, w4⟩⟩

theorem Row.ownedN {w : World} {base : Nat} {e : TypeId} {size n : Nat} {a : Option Addr} {c : Nat} {xs : List Value} (h : w.ownsRow base e size (.slice a n c) n xs) : Row w w.heap.size a xs := by
  intro k x hx
  rcases h.2 with ⟨hv, hn⟩ | ⟨g, cap, cur, hv, _, hg, _⟩
  · have hl := h.1
    rw [hn, Nat.zero_mul] at hl
    rw [List.eq_nil_of_length_eq_zero hl] at hx
    simp at hx
  · injection hv with ha _ _
    refine ⟨g, 0, ha, ?_, ?_⟩
    · rcases Nat.lt_or_ge g w.heap.size with h1 | h1
      · exact h1
      · rw [Array.getElem?_eq_none h1] at hg; cases hg
    · have hc := h.cells (g := g) (by subst ha; rfl) k x hx
      rw [add_plain] at hc
      exact hc

/-- The three cells of a box. -/
abbrev Box3 (W : World) (g : Nat) (x y z : Value) : Prop := W.cell? ⟨g, 0, none⟩ = some x ∧ W.cell? ⟨g, 1, none⟩ = some y ∧ W.cell? ⟨g, 2, none⟩ = some z
theorem Box3.keep {W W' : World} {g : Nat} {x y z : Value} (h : Box3 W g x y z) (hg : g < W.heap.size) (hb : Below W.heap.size W W') : Box3 W' g x y z :=
  ⟨(hb.cell (p := ⟨g, 0, none⟩) hg).trans h.1, (hb.cell (p := ⟨g, 1, none⟩) hg).trans h.2.1, (hb.cell (p := ⟨g, 2, none⟩) hg).trans h.2.2⟩
theorem one_box (w : World) (u0 u1 u2 : Value) (t : TypeId) : ∃ W0, w.alloc (.cells #[u0, u1, u2] t) = W0 ∧ Below w.heap.size w W0 ∧ w.heap.size < W0.heap.size ∧ Box3 W0 w.heap.size u0 u1 u2 :=
  ⟨_, rfl, (Below.refl _ _).alloc (Nat.le_refl _) _, by simp, by simp [Box3, go_sem]⟩
theorem two_box (w : World) (u0 u1 u2 v0 v1 v2 : Value) (t : TypeId) : ∃ W0, (w.alloc (.cells #[u0, u1, u2] t)).alloc (.cells #[v0, v1, v2] t) = W0 ∧ Below w.heap.size w W0 ∧ w.heap.size + 1 < W0.heap.size ∧ Box3 W0 w.heap.size u0 u1 u2 ∧ Box3 W0 (w.heap.size + 1) v0 v1 v2 :=
  ⟨_, rfl, ((Below.refl _ _).alloc (Nat.le_refl _) _).alloc (by simp) _, by simp, by simp [Box3, go_sem], by simp [Box3, go_sem]⟩

/-- The five cells of an edge's box. -/
abbrev Box5 (W : World) (g : Nat) (x : Ed) : Prop := W.cell? ⟨g, 0, none⟩ = some (.int .i64 x.f) ∧ W.cell? ⟨g, 1, none⟩ = some (.int .i64 x.t) ∧ W.cell? ⟨g, 2, none⟩ = some (.int .i64 x.k) ∧ W.cell? ⟨g, 3, none⟩ = some (.string x.a) ∧ W.cell? ⟨g, 4, none⟩ = some (.string x.b)
theorem Box5.keep {W W' : World} {g : Nat} {x : Ed} (h : Box5 W g x) (hg : g < W.heap.size) (hb : Below W.heap.size W W') : Box5 W' g x :=
  ⟨(hb.cell (p := ⟨g, 0, none⟩) hg).trans h.1, (hb.cell (p := ⟨g, 1, none⟩) hg).trans h.2.1, (hb.cell (p := ⟨g, 2, none⟩) hg).trans h.2.2.1, (hb.cell (p := ⟨g, 3, none⟩) hg).trans h.2.2.2.1, (hb.cell (p := ⟨g, 4, none⟩) hg).trans h.2.2.2.2⟩
theorem edge_box (w : World) (x : Ed) (t : TypeId) : ∃ W0, w.alloc (.cells #[.int .i64 x.f, .int .i64 x.t, .int .i64 x.k, .string x.a, .string x.b] t) = W0 ∧ Below w.heap.size w W0 ∧ w.heap.size < W0.heap.size ∧ Box5 W0 w.heap.size x :=
  ⟨_, rfl, (Below.refl _ _).alloc (Nat.le_refl _) _, by simp, by simp [Box5, go_sem]⟩

/-- A []string that lies in a struct, opened. -/
theorem open_strs_in {H : Type} {enc : TypeId × Value → H} {P : Program} {W : World} {t e : TypeId} {v : Value} {n : Nat} {y : DataW H × List MemPlace}
    (ht : P.underlying t = some (.slice e)) (he : P.underlying e = some .string) (hc : P.cellsOf e = 1) (hlt : ∀ x ∈ y.2, x.block < W.heap.size)
    (h : DataW.trod enc P W 0 (fun _ => true) true n t [v] = some y) :
    ∃ (a : Option Addr) (cap : Nat) (ss : List ByteArray), v = .slice a ss.length cap ∧ ss.length ≤ cap ∧ ss.length ≤ maxLen ∧ Row W W.heap.size a (strVals ss) ∧ (∀ s ∈ ss, s.size ≤ maxLen) := by
  rcases open_strings ht he hc h with ⟨hcs, hx⟩ | ⟨a, len, cap, ss, hcs, _, hl, hm, hz, hx, hcell, hws⟩
  · simp only [List.cons.injEq, and_true] at hcs
    subst hcs
    exact ⟨none, 0, [], rfl, Nat.le_refl _, Nat.zero_le _, Row.nil_, fun s hs => by simp at hs⟩
  · simp only [List.cons.injEq, and_true] at hcs
    subst hcs
    subst hx
    simp only [if_true] at hz
    have hlen : (ss.take len).length = len := by simp; omega
    refine ⟨some a, cap, ss.take len, by rw [hlen], by omega, by omega, ?_, fun s hs => hws s (List.mem_of_mem_take hs)⟩
    intro k x hx
    obtain ⟨hk, rfl⟩ := List.getElem?_eq_some_iff.1 hx
    have hk' : k < len := by simpa [strVals, hz] using (Nat.lt_of_lt_of_le hk (by simp [strVals]; omega) : k < len)
    obtain ⟨b, off, spot⟩ := a
    have hspot : spot = none := by simpa [Addr.add] using World.cell?_spot (hcell 0 (by omega))
    subst hspot
    refine ⟨b, off, rfl, hlt (.cell b (off + 0)) (MemPlace.mem_row.2 ⟨0, by omega, by simp⟩), ?_⟩
    rw [← add_plain, hcell k (by omega)]
    have hk2 : k < ss.length := by omega
    simp [strVals, List.getD, hk2]

/-- A row of edges that lies in a struct, opened. -/
theorem open_edges_in {H : Type} {enc : TypeId × Value → H} {P : Program} {W : World} {u t : TypeId} {v : Value} {n : Nat} {y : DataW H × List MemPlace} {f0 f1 f2 g0 g1 g2 : Field}
    (ht : P.underlying u = some (.slice t)) (hs : P.underlying t = some (.struct #[f0, f1, f2])) (hC : P.cellsOf t = 5) (h0 : P.underlying f0.type = some (.int .i64)) (h1 : P.underlying f1.type = some (.int .i64)) (h2 : P.underlying f2.type = some (.struct #[g0, g1, g2]))
    (hoff : (f0.offset, f1.offset, f2.offset, g0.offset, g1.offset, g2.offset) = (0, 1, 2, 0, 1, 2)) (hcs : (P.cellsOf f0.type, P.cellsOf f1.type, P.cellsOf f2.type, P.cellsOf g0.type, P.cellsOf g1.type, P.cellsOf g2.type) = (1, 1, 3, 1, 1, 1))
    (k0 : P.underlying g0.type = some (.int .i64)) (k1 : P.underlying g1.type = some .string) (k2 : P.underlying g2.type = some .string) (hlt : ∀ x ∈ y.2, x.block < W.heap.size)
    (h : DataW.trod enc P W 0 (fun _ => true) true n u [v] = some y) :
    ∃ (a : Option Addr) (cap : Nat) (es : List Ed), v = .slice a es.length cap ∧ es.length ≤ cap ∧ es.length ≤ maxLen ∧ Row W W.heap.size a (edVals es) ∧ (∀ x ∈ es, x.Ok) := by
  rcases open_slice ht h with ⟨hcs, _⟩ | ⟨a, len, cap, m, n', D, Pl, hcs', _, hl, hm, hmm, hx', hi⟩
  · simp only [List.cons.injEq, and_true] at hcs
    subst hcs
    exact ⟨none, 0, [], rfl, Nat.le_refl _, Nat.zero_le _, Row.nil_, fun s hs => by simp at hs⟩
  · simp only [List.cons.injEq, and_true] at hcs'
    subst hcs'
    simp only [if_true] at hmm
    subst hmm
    have hone : ∀ i, i < len → ∃ z : Ed, W.cells? 0 (a.add (i * 5)) 5 = some (edCells z) ∧ z.Ok := by
      intro i hil
      obtain ⟨cs', hc, ht'⟩ := hi i (Nat.lt_of_lt_of_le hil hl)
      obtain ⟨z, rfl, hz⟩ := open_edge hs hC h0 h1 h2 hoff hcs k0 k1 k2 ht'
      rw [hC] at hc
      exact ⟨z, hc, hz⟩
    let g : Nat → Ed := fun i => if h : i < len then Classical.choose (hone i h) else ⟨0, 0, 0, ⟨#[]⟩, ⟨#[]⟩⟩
    have hg : ∀ i, i < len → W.cells? 0 (a.add (i * 5)) 5 = some (edCells (g i)) ∧ (g i).Ok := by
      intro i hil
      have := Classical.choose_spec (hone i hil)
      simpa [g, hil] using this
    have hlen : ((List.range len).map g).length = len := by simp
    refine ⟨some a, _, (List.range len).map g, by rw [hlen], by omega, by omega, ?_, ?_⟩
    · obtain ⟨b, off, spot⟩ := a
      have hcell : ∀ i, i < len → ∀ j (hj : j < 5), W.cell? ((⟨b, off, spot⟩ : Addr).add (i * 5 + j)) = some ((edCells (g i))[j]'(by rw [edCells_length]; exact hj)) := by
        intro i hil j hj
        obtain ⟨_, _, hat⟩ := World.cells?_some (hg i hil).1
        have := hat j hj
        rw [Go.Deep.add_add] at this
        rw [this, List.getElem?_eq_getElem (by rw [edCells_length]; exact hj)]
      intro k x hx
      have hk : k < len * 5 := by
        have := (List.getElem?_eq_some_iff.1 hx).1
        rwa [edVals_length, hlen] at this
      have hspot : spot = none := by
        have := World.cell?_spot (hcell 0 (by omega) 0 (by omega))
        simpa [Addr.add] using this
      subst hspot
      have hk5 : k / 5 * 5 + k % 5 = k := by omega
      have hm5 : k % 5 < 5 := Nat.mod_lt _ (by omega)
      refine ⟨b, off, rfl, ?_, ?_⟩
      · refine hlt (.cell b (off + 0)) ?_
        rw [hx']
        exact List.mem_append_left _ (MemPlace.mem_row.2 ⟨0, by rw [hC]; omega, by simp⟩)
      · have h1 := hcell (k / 5) (by omega) (k % 5) hm5
        rw [hk5, add_plain] at h1
        rw [h1]
        rw [← hk5, edVals_at _ (k / 5) (by rw [hlen]; omega) (k % 5) hm5, List.getElem?_eq_getElem (by rw [edCells_length]; exact hm5)] at hx
        simpa using hx
    · intro x hx
      obtain ⟨i, hi', rfl⟩ := List.mem_map.1 hx
      exact (hg i (List.mem_range.1 hi')).2

/-- An argument that is a program, opened. -/
theorem open_prog {H : Type} {enc : TypeId × Value → H} {P : Program} {W : World} {r : Reach} {b0 : Nat} {t te : TypeId} {q0 q1 q2 : Field} {v : Value} {d : DataW H} {p : List MemPlace} {e : TypeId} {f0 f1 f2 g0 g1 g2 : Field}
    (hp : P.underlying t = some (.struct #[q0, q1, q2])) (hone : oneCellFields P #[q0, q1, q2] = true) (hCp : P.cellsOf t = 3)
    (hq0 : P.underlying q0.type = some (.slice e)) (he : P.underlying e = some .string) (hce : P.cellsOf e = 1) (hq1 : P.underlying q1.type = some (.int .i64)) (hq2 : P.underlying q2.type = some (.slice te))
    (hs : P.underlying te = some (.struct #[f0, f1, f2])) (hC : P.cellsOf te = 5) (h0 : P.underlying f0.type = some (.int .i64)) (h1 : P.underlying f1.type = some (.int .i64)) (h2 : P.underlying f2.type = some (.struct #[g0, g1, g2]))
    (hoff : (f0.offset, f1.offset, f2.offset, g0.offset, g1.offset, g2.offset) = (0, 1, 2, 0, 1, 2)) (hcs : (P.cellsOf f0.type, P.cellsOf f1.type, P.cellsOf f2.type, P.cellsOf g0.type, P.cellsOf g1.type, P.cellsOf g2.type) = (1, 1, 3, 1, 1, 1))
    (k0 : P.underlying g0.type = some (.int .i64)) (k1 : P.underlying g1.type = some .string) (k2 : P.underlying g2.type = some .string) (hlt : ∀ x ∈ p, x.block < W.heap.size)
    (hv : Value.okWide P W r b0 t v) (h : DataW.Trod enc P W 0 (fun _ => true) true t v d p) :
    ∃ (a : Option Addr) (cap : Nat) (ss : List ByteArray) (n : Int) (b : Option Addr) (capb : Nat) (es : List Ed), v = .agg #[.slice a ss.length cap, .int .i64 n, .slice b es.length capb] ∧
      (ss.length ≤ maxLen ∧ (∀ s ∈ ss, s.size ≤ maxLen) ∧ Row W W.heap.size a (strVals ss)) ∧ (-9223372036854775808 ≤ n ∧ n ≤ 9223372036854775807) ∧ (es.length ≤ maxLen ∧ (∀ x ∈ es, x.Ok) ∧ Row W W.heap.size b (edVals es)) := by
  obtain ⟨v0, v1, v2, y0, y1, y2, n, rfl, _, rfl, e0, e1, e2⟩ := open_agg3 hp hone hCp hv h
  obtain ⟨a, cap, ss, rfl, _, l0, r0, w0⟩ := open_strs_in hq0 he hce (fun x hx => hlt x (by simp [hx])) e0
  obtain ⟨n1, q1', _, w1⟩ := DataW.trod_int hq1 e1
  obtain ⟨b, capb, es, rfl, _, l2, r2, w2⟩ := open_edges_in hq2 hs hC h0 h1 h2 hoff hcs k0 k1 k2 (fun x hx => hlt x (by simp [hx])) e2
  simp only [List.cons.injEq, and_true] at q1'
  subst q1'
  exact ⟨a, cap, ss, n1, b, capb, es, rfl, ⟨l0, w0, r0⟩, i64_bounds w1, ⟨l2, w2, r2⟩⟩
end Go.Proofs.YtpmmjaceehlpiaaGreatDoor
/-
  Rows of structs that hold heaps: each with where its rows lie and what they hold. Nothing here knows of the program's text.
-/
namespace Go.Proofs.YtpmmjaceehlpiaaGreatDoor
open Go Go.RowKit

/-- Rows whose elements take s cells each. -/
def fl {α : Type} (c : α → List Value) (xs : List α) : List Value := xs.flatMap c
section
variable {α : Type} {c : α → List Value} {s : Nat}
theorem fl_nil : fl c [] = [] := rfl
theorem fl_cons (x : α) (xs : List α) : fl c (x :: xs) = c x ++ fl c xs := rfl
theorem fl_append (xs ys : List α) : fl c (xs ++ ys) = fl c xs ++ fl c ys := by simp [fl]
theorem fl_snoc (xs : List α) (x : α) : fl c (xs ++ [x]) = fl c xs ++ c x := by simp [fl]
theorem fl_length (hc : ∀ x, (c x).length = s) : ∀ xs : List α, (fl c xs).length = xs.length * s
  | [] => by simp [fl]
  | x :: xs => by rw [fl_cons, List.length_append, fl_length hc xs, hc, List.length_cons, Nat.add_mul, Nat.one_mul, Nat.add_comm]
theorem fl_at (hc : ∀ x, (c x).length = s) : ∀ (xs : List α) (i : Nat) (h : i < xs.length) (j : Nat), j < s → (fl c xs)[i * s + j]? = (c xs[i])[j]?
  | x :: xs, 0, _, j, hj => by
    rw [fl_cons, List.getElem?_append_left (by rw [hc]; omega)]
    simp
  | x :: xs, i + 1, h, j, hj => by
    have h' : i < xs.length := by simpa using h
    rw [fl_cons, List.getElem?_append_right (by rw [hc, Nat.add_mul]; omega), hc, show (i + 1) * s + j - s = i * s + j by rw [Nat.add_mul]; omega, fl_at hc xs i h' j hj]
    simp
theorem fl_take (hc : ∀ x, (c x).length = s) : ∀ (xs : List α) (k : Nat), (fl c xs).take (k * s) = fl c (xs.take k)
  | [], k => by simp [fl]
  | x :: xs, 0 => by simp [fl]
  | x :: xs, k + 1 => by
    rw [fl_cons, List.take_succ_cons, fl_cons, List.take_append, hc, show (k + 1) * s - s = k * s by rw [Nat.add_mul]; omega, fl_take hc xs k, List.take_of_length_le (by rw [hc, Nat.add_mul]; omega)]
/-- An element's cells in a row that is read. -/
theorem Row.item {w : World} {B : Nat} {a : Option Addr} {xs : List α} (hc : ∀ x, (c x).length = s) (hs : 0 < s) (h : Row w B a (fl c xs)) (i : Nat) (hi : i < xs.length) :
    ∃ b o, a = some ⟨b, o, none⟩ ∧ b < B ∧ ∀ j u, (c xs[i])[j]? = some u → w.cell? ⟨b, o + (i * s + j), none⟩ = some u := by
  have g := fun j (hj : j < s) => h (i * s + j) _ ((fl_at hc xs i hi j hj).trans (List.getElem?_eq_getElem (by rw [hc]; exact hj)))
  obtain ⟨b, o, rfl, hb, _⟩ := g 0 hs
  refine ⟨b, o, rfl, hb, fun j u hu => ?_⟩
  obtain ⟨hj, rfl⟩ := List.getElem?_eq_some_iff.1 hu
  obtain ⟨b', o', e, _, hcell⟩ := g j (by rw [hc] at hj; exact hj)
  injection e with e
  injection e with e1 e2 _
  subst e1 e2
  exact hcell
end

/-- A heap: where its two rows lie, and what they hold. -/
structure Hp where
  a : Option Addr
  ca : Nat
  b : Option Addr
  cb : Nat
  vs : List Int
  zs : List Int
/-- What a heap holds. -/
def Hp.body (x : Hp) : List Int × List Int := (x.vs, x.zs)
/-- The blocks of a heap. -/
def Hp.has (x : Hp) (k : Nat) : Prop := (Value.slice x.a x.vs.length x.ca).ownBlock = some k ∨ (Value.slice x.b x.zs.length x.cb).ownBlock = some k
abbrev Hp.v (x : Hp) : Value := heV x.a x.vs.length x.ca x.b x.zs.length x.cb
def hpCells (x : Hp) : List Value := [.slice x.a x.vs.length x.ca, .slice x.b x.zs.length x.cb]
theorem hpCells_length (x : Hp) : (hpCells x).length = 2 := rfl
abbrev hpVals (hs : List Hp) : List Value := fl hpCells hs
def Hp.At (W : World) (x : Hp) : Prop := HeapAt W x.a x.b x.vs x.zs
def Hp.In (lo hi : Nat) (W : World) (x : Hp) : Prop := HeapIn lo hi W x.a x.ca x.b x.cb (intVals x.vs) (intVals x.zs)
theorem Hp.In.at_ {lo hi : Nat} {W : World} {x : Hp} (h : x.In lo hi W) : x.At W := HeapIn.rows h
theorem Hp.At.below {W W' : World} {x : Hp} (h : x.At W) (hb : Below W.heap.size W W') : x.At W' := HeapAt.below h hb (Nat.le_refl _)
theorem Hp.In.has_lt {lo hi : Nat} {W : World} {x : Hp} (h : x.In lo hi W) {k : Nat} (hk : x.has k) : lo ≤ k ∧ k < hi := by
  rcases hk with hk | hk
  · exact ⟨(h.v.2.1.lt k (by rw [intVals_length]; exact hk)).1, h.v.2.2 k (by rw [intVals_length]; exact hk)⟩
  · exact ⟨(h.z.2.1.lt k (by rw [intVals_length]; exact hk)).1, h.z.2.2 k (by rw [intVals_length]; exact hk)⟩

def hpSize (x : Hp) : Nat := x.vs.length + x.zs.length
def hpTotal (hs : List Hp) : Nat := (hs.map hpSize).sum
theorem hpTotal_next (hs : List Hp) (k : Nat) (h : k < hs.length) : hpTotal (hs.take (k + 1)) = hpTotal (hs.take k) + hpSize hs[k] := by
  unfold hpTotal
  rw [take_next hs k h, List.map_append, List.sum_append, List.map_cons, List.map_nil, List.sum_cons, List.sum_nil, Nat.add_zero]
theorem hpTotal_take : ∀ (hs : List Hp) (k : Nat), hpTotal (hs.take k) ≤ hpTotal hs
  | [], k => by simp [hpTotal]
  | x :: hs, 0 => by simp [hpTotal]
  | x :: hs, k + 1 => by
    have := hpTotal_take hs k
    simp only [hpTotal, List.take_succ_cons, List.map_cons, List.sum_cons] at *
    omega
/-- A row of heaps that may be read. -/
structure HeapsAt (W : World) (a : Option Addr) (hs : List Hp) : Prop where
  row : Row W W.heap.size a (hpVals hs)
  each : ∀ x ∈ hs, x.At W
theorem HeapsAt.below {W W' : World} {a : Option Addr} {hs : List Hp} (h : HeapsAt W a hs) (hb : Below W.heap.size W W') : HeapsAt W' a hs :=
  ⟨(h.row.below hb).grow hb.size, fun x hx => (h.each x hx).below hb⟩

section
variable {lo hi : Nat} {W W' : World} {x : Hp} {hs : List Hp}
theorem OwnIn.same {e size n : Nat} {v : Value} {xs : List Value} (h : OwnIn lo hi W e size v n xs) (hz : W.heap.size ≤ W'.heap.size) (hb : ∀ k, v.ownBlock = some k → W'.heap[k]? = W.heap[k]?) : OwnIn lo hi W' e size v n xs := by
  refine ⟨Nat.le_trans h.1 hz, ⟨h.2.1.1, h.2.1.2.imp id ?_⟩, h.2.2⟩
  rintro ⟨g, cap, cur, rfl, hl, hgc, r⟩
  exact ⟨g, cap, cur, rfl, hl, (hb g rfl).trans hgc, r⟩
theorem Hp.In.same (h : x.In lo hi W) (hz : W.heap.size ≤ W'.heap.size) (hb : ∀ k, x.has k → W'.heap[k]? = W.heap[k]?) : x.In lo hi W' :=
  ⟨OwnIn.same h.v hz fun k hk => hb k (.inl (by rw [intVals_length] at hk; exact hk)), OwnIn.same h.z hz fun k hk => hb k (.inr (by rw [intVals_length] at hk; exact hk)), h.apart⟩
theorem Hp.In.mono {lo' hi' : Nat} (h : x.In lo hi W) (h1 : lo' ≤ lo) (h2 : hi ≤ hi') (h3 : hi' ≤ W.heap.size) : x.In lo' hi' W := HeapIn.mono h h1 h2 h3
/-- Heaps that calls made: their rows may be written, and no two share a block. -/
structure HeapsIn (lo : Nat) (W : World) (hs : List Hp) : Prop where
  each : ∀ x ∈ hs, x.In lo W.heap.size W
  apart : hs.Pairwise fun x y => ∀ k, x.has k → ¬ y.has k
theorem HeapsIn.nil : HeapsIn lo W [] := ⟨fun x hx => by simp at hx, List.Pairwise.nil⟩
theorem HeapsIn.same (h : HeapsIn lo W hs) (hz : W.heap.size ≤ W'.heap.size) (hb : ∀ x ∈ hs, ∀ k, x.has k → W'.heap[k]? = W.heap[k]?) : HeapsIn lo W' hs :=
  ⟨fun x hx => ((h.each x hx).same hz (hb x hx)).mono (Nat.le_refl _) hz (Nat.le_refl _), h.apart⟩
theorem HeapsIn.has_lt (h : HeapsIn lo W hs) (hx : x ∈ hs) {k : Nat} (hk : x.has k) : lo ≤ k ∧ k < W.heap.size := (h.each x hx).has_lt hk
theorem HeapsIn.below (h : HeapsIn lo W hs) (hb : Below W.heap.size W W') : HeapsIn lo W' hs := h.same hb.size fun _ hx k hk => hb.block k (h.has_lt hx hk).2
theorem HeapsIn.mono {lo' : Nat} (h : HeapsIn lo W hs) (h1 : lo' ≤ lo) : HeapsIn lo' W hs := ⟨fun x hx => (h.each x hx).mono h1 (Nat.le_refl _) (Nat.le_refl _), h.apart⟩
theorem HeapsIn.snoc (h : HeapsIn lo W hs) (hx : x.In lo W.heap.size W) (hn : ∀ y ∈ hs, ∀ k, y.has k → ¬ x.has k) : HeapsIn lo W (hs ++ [x]) := by
  refine ⟨fun y hy => ?_, ?_⟩
  · rcases List.mem_append.1 hy with hy | hy
    · exact h.each y hy
    · rw [List.mem_singleton.1 hy]
      exact hx
  · rw [List.pairwise_append]
    exact ⟨h.apart, List.pairwise_singleton _ _, fun y hy z hz k hk => by rw [List.mem_singleton.1 hz]; exact hn y hy k hk⟩
theorem HeapsIn.at_ (h : HeapsIn lo W hs) (hx : x ∈ hs) : x.At W := (h.each x hx).at_
/-- One of the heaps is written: the others stay. -/
theorem HeapsIn.set (h : HeapsIn lo W hs) {i : Nat} (hi : i < hs.length) {y : Hp} (hz : W.heap.size ≤ W'.heap.size) (hb : ∀ k, k < W.heap.size → ¬ hs[i].has k → W'.heap[k]? = W.heap[k]?) (hy : y.In lo W'.heap.size W') (hh : ∀ k, y.has k → hs[i].has k) : HeapsIn lo W' (hs.set i y) := by
  have hp := List.pairwise_iff_getElem.1 h.apart
  have hne : ∀ j (hj : j < hs.length), j ≠ i → ∀ k, hs[j].has k → ¬ hs[i].has k := by
    intro j hj hji k hk hki
    rcases Nat.lt_or_gt_of_ne hji with hlt | hgt
    · exact hp j i hj hi hlt k hk hki
    · exact hp i j hi hj hgt k hki hk
  refine ⟨fun x hx => ?_, ?_⟩
  · obtain ⟨j, hj, rfl⟩ := List.getElem_of_mem hx
    rw [List.length_set] at hj
    rw [List.getElem_set]
    by_cases hij : i = j
    · rw [if_pos hij]
      exact hy
    · rw [if_neg hij]
      have hm : hs[j] ∈ hs := List.getElem_mem hj
      exact ((h.each _ hm).same hz fun k hk => hb k (h.has_lt hm hk).2 (hne j hj (Ne.symm hij) k hk)).mono (Nat.le_refl _) hz (Nat.le_refl _)
  · rw [List.pairwise_iff_getElem]
    intro p q hp' hq' hpq k
    rw [List.length_set] at hp' hq'
    rw [List.getElem_set, List.getElem_set]
    by_cases h1 : i = p
    · rw [if_pos h1, if_neg (by omega)]
      intro hk hk2
      exact hne q hq' (by omega) k hk2 (hh k hk)
    · rw [if_neg h1]
      by_cases h2 : i = q
      · rw [if_pos h2]
        intro hk hk2
        exact hne p hp' (by omega) k hk (hh k hk2)
      · rw [if_neg h2]
        exact hp p q hp' hq' hpq k
theorem Hp.In.store {b i : Nat} {u : Value} (h : x.In lo hi W) (hb : b < lo) : x.In lo hi (W.setCell ⟨b, i, none⟩ u) :=
  h.same (by simp) fun k hk => Below.heap_setCell _ _ _ _ (by have := (h.has_lt hk).1; show k ≠ b; omega)
theorem HeapsIn.store {b i : Nat} {u : Value} (h : HeapsIn lo W hs) (hb : b < lo) : HeapsIn lo (W.setCell ⟨b, i, none⟩ u) hs :=
  h.same (by simp) fun x hx k hk => Below.heap_setCell _ _ _ _ (by have := (h.has_lt hx hk).1; show k ≠ b; omega)
end

/-- Only blocks for which S holds may have turned; new ones may be there. -/
structure Only (S : Nat → Prop) (w w' : World) : Prop where
  os : w'.os = w.os
  tape : w'.tape = w.tape
  output : w'.output = w.output
  size : w.heap.size ≤ w'.heap.size
  block : ∀ k, k < w.heap.size → ¬ S k → w'.heap[k]? = w.heap[k]?
section
variable {S S' : Nat → Prop} {w w' w'' : World}
theorem Only.of_below (h : Below w.heap.size w w') : Only S w w' := ⟨h.os, h.tape, h.output, h.size, fun k hk _ => h.block k hk⟩
theorem Only.refl : Only S w w := Only.of_below (Below.refl _ _)
theorem Only.trans (h : Only S w w') (k : Only S w' w'') : Only S w w'' :=
  ⟨k.os.trans h.os, k.tape.trans h.tape, k.output.trans h.output, Nat.le_trans h.size k.size, fun j hj hd => (k.block j (Nat.lt_of_lt_of_le hj h.size) hd).trans (h.block j hj hd)⟩
theorem Only.of_grown {r : Option Nat} (h : w.grownBy w' r) (hr : ∀ k, r = some k → S k) : Only S w w' := ⟨h.os, h.tape, h.output, h.size, fun k hk hd => h.block k hk fun e => hd (hr k e.symm)⟩
theorem Only.mono (h : Only S w w') (hS : ∀ k, S k → S' k) : Only S' w w' := ⟨h.os, h.tape, h.output, h.size, fun k hk hd => h.block k hk fun hs => hd (hS k hs)⟩
theorem Only.below {B : Nat} {w0 : World} (h : Only S w w') (hb : Below B w0 w) (hB : B ≤ w.heap.size) (hS : ∀ k, S k → B ≤ k) : Below B w0 w' :=
  ⟨h.os.trans hb.os, h.tape.trans hb.tape, h.output.trans hb.output, Nat.le_trans hb.size h.size, fun k hk => (h.block k (by omega) fun hs => by have := hS k hs; omega).trans (hb.block k hk)⟩
theorem Only.set {b i : Nat} {u : Value} (hb : S b) : Only S w (w.setCell ⟨b, i, none⟩ u) :=
  ⟨rfl, rfl, rfl, by simp, fun k _ hd => Below.heap_setCell _ _ _ _ (by show k ≠ b; exact fun e => hd (e ▸ hb))⟩
end
end Go.Proofs.YtpmmjaceehlpiaaGreatDoor
/-
  The edges that begin at a point, by the program and by the model: their numbers in order.
-/
namespace Go.Proofs.YtpmmjaceehlpiaaGreatDoor
open Go Go.RowKit

def fromsOf (es : List Ed) : List Int := es.map Ed.f
theorem fromsOf_length (es : List Ed) : (fromsOf es).length = es.length := by simp [fromsOf]
theorem fromsOf_at (es : List Ed) (k : Nat) (h : k < es.length) (h' : k < (fromsOf es).length) : (fromsOf es)[k] = es[k].f := by simp [fromsOf]
theorem fromsOf_take (es : List Ed) (k : Nat) (h : k < es.length) : fromsOf (es.take (k + 1)) = fromsOf (es.take k) ++ [es[k].f] := by
  unfold fromsOf
  rw [take_next es k h, List.map_append, List.map_cons, List.map_nil]
theorem oneCell_is {w : World} {e : TypeId} {N : Nat} (hN : N = w.heap.size) (x : Value) : ∀ (j : Nat) (u : Value), [x][j]? = some u → (w.alloc (.cells #[x] e)).cell? ((⟨N, 0, none⟩ : Addr).add j) = some u := by
  subst hN
  exact oneCell_at x
theorem own_form {w : World} {base e size n : Nat} {v : Value} {xs : List Value} (h : w.ownsRow base e size v n xs) : ∃ a c, v = .slice a n c := by
  rcases h.2 with ⟨rfl, rfl⟩ | ⟨g, cap, cur, rfl, _⟩
  · exact ⟨_, _, rfl⟩
  · exact ⟨_, _, rfl⟩
theorem intInfoE : (Tryz.prog.info? 3).map (fun i => (i.zero, i.size, i.bytes)) = some (some (.int .i64 0), 1, 8) := by kernel_rfl

set_option maxRecDepth 100000 in
set_option maxHeartbeats 1600000 in
theorem implEdgesFrom (a b : Option Addr) (na ca cb : Nat) (es : List Ed) (p n : Int) (w : World) (hlen : es.length ≤ 1048576) (hrow : Row w w.heap.size b (edVals es)) :
    Calls Tryz.prog 54 #[.agg #[.slice a na ca, .int .i64 p, .slice b es.length cb], .int .i64 n] w (Built w.heap.size 3 (intVals (posFrom n 0 (fromsOf es))) w) := by
  obtain ⟨i0, hi, hz0, hz1, hz2⟩ := info_parts intInfoE
  go_enter Tryz.func54, Tryz.ntmps54
  go_wp2
  go_loopw [5, 11] (fun v i wr => ∃ k : Nat, k ≤ es.length ∧ i = .int .i64 k ∧ wr.ownsRow w.heap.size 3 1 v k (intVals (fromsOf (es.take k))) ∧ Below w.heap.size w wr)
    (fun _ i _ => es.length - (intOf i).toNat)
  case atStart => exact ⟨0, Nat.zero_le _, rfl, ⟨rfl, .inl ⟨rfl, rfl⟩⟩, (Below.refl _ _).alloc (Nat.le_refl _) _⟩
  case round =>
    obtain ⟨k, hk, rfl, hown, hbw⟩ := hrel
    have Hown := Lib.hid hown
    clear hown
    by_cases hlt : k < es.length
    · obtain ⟨b0, o, rfl, hbW, hE0⟩ := hrow.edge k hlt
      obtain ⟨c0, c1, c2, c3, c4⟩ := hE0.below hbw hbW
      have htk := fromsOf_take es k hlt
      generalize es[k] = x at *
      have Htk := Lib.hid htk
      have hsz := hbw.size
      clear hE0 htk
      go_wp2_with (at_builtin; refine wpList_append_own _ rfl (.tmp 15) (.tmp 18) 28 rfl w.heap.size 3 i0 (.int .i64 0) 1 8 Tryz.underlying28 hi hz0 hz1 hz2 rfl (by decide) _ k _ rfl ((Hown.out.alloc _).alloc _) ⟨wr.heap.size + 1, 0, none⟩ 1 1 [.int .i64 x.f] rfl rfl (oneCell_is (by simp) _) (oneCell_int _) (by unfold maxLen; omega) (by omega) (by simp; omega) ?_; intro v2 w2 hown2 hg2 _; have hb2 := own_below ((Hown.out.alloc _).alloc _) hg2 (by simp; omega) ((hbw.alloc hbw.size _).alloc (by simp; omega) _); clear hg2)
      go_roundw
      case rel => exact ⟨k + 1, by omega, by go_num, by rw [Htk.out, intVals_snoc]; exact hown2, hb2⟩
      case measure => simp [intOf]; omega
    · have hk' : k = es.length := by omega
      subst hk'
      rw [List.take_length] at Hown
      obtain ⟨a2, c2, rfl⟩ := own_form Hown.out
      have hR := Row.owned Hown.out
      go_wp2_with fail
      rw [← fromsOf_length es]
      refine (implPositions a2 c2 (fromsOf es) n _ (by rw [fromsOf_length]; exact hlen) (by simpa using hR)).mono ?_
      rintro e w2 ⟨ag, cg, rfl, hcg, hg, hb2⟩
      have hb := hbw.trans (hb2.mono hbw.size)
      go_wp2
      go_ret
      exact ⟨ag, cg, rfl, hcg, own_base hg hbw.size, hb⟩

set_option maxRecDepth 100000 in
set_option maxHeartbeats 1600000 in
theorem specEdgesFrom (a b : Option Addr) (na ca cb : Nat) (es : List Ed) (p n : Int) (w : World) (hlen : es.length ≤ 1048576) (hrow : Row w w.heap.size b (edVals es)) :
    Calls Tryz.prog 47 #[.agg #[.slice a na ca, .int .i64 p, .slice b es.length cb], .int .i64 n] w (Built w.heap.size 3 (intVals (posFrom n 0 (fromsOf es))) w) := by
  obtain ⟨i0, hi, hz0, hz1, hz2⟩ := info_parts intInfoE
  go_enter Tryz.func47, Tryz.ntmps47
  go_wp2
  obtain ⟨W0, hW0, hb0, hs0, hA0⟩ := one_box w (.slice a na ca) (.int .i64 p) (.slice b es.length cb) 27
  rw [hW0]
  go_loopw [5, 6] (fun v i wr => ∃ (k : Nat) (qs : List Int), k ≤ es.length ∧ i = .int .i64 k ∧ qs.length ≤ k ∧ qs ++ posFrom n k ((fromsOf es).drop k) = posFrom n 0 (fromsOf es) ∧ wr.ownsRow W0.heap.size 3 1 v qs.length (intVals qs) ∧ Below W0.heap.size W0 wr)
    (fun _ i _ => es.length - (intOf i).toNat)
  case atStart => exact ⟨0, [], Nat.zero_le _, rfl, Nat.le_refl _, rfl, (by simpa [← hW0, intVals] using World.ownsRow_made (e := 3) (size := 1) W0 #[] 0 (Nat.le_refl _) (Nat.zero_le _) rfl), (Below.refl _ _).alloc (Nat.le_refl _) _⟩
  case round =>
    obtain ⟨k, qs, hk, rfl, hql, hq, hown, hbw⟩ := hrel
    have Hown := Lib.hid hown
    clear hown
    obtain ⟨d0, d1, d2⟩ := hA0.keep hs0 hbw
    have hsz := hbw.size
    have hbw' : Below w.heap.size w wr := hb0.trans (hbw.mono hb0.size)
    by_cases hlt : k < es.length
    · obtain ⟨b0, o, rfl, hbW, hE0⟩ := hrow.edge k hlt
      obtain ⟨c0, _, _, _, _⟩ := hE0.below hbw' hbW
      have hlt' : k < (fromsOf es).length := by rw [fromsOf_length]; exact hlt
      have hat := fromsOf_at es k hlt hlt'
      by_cases he : (fromsOf es)[k] = n
      · rw [pos_hit hlt' he] at hq
        have Hq := Lib.hid hq
        rw [hat] at he
        have hd : (es[k].f == n) = true := by simpa using he
        generalize es[k] = x at *
        clear hq he hE0 hat
        go_wp2_with (at_builtin; refine wpList_append_own _ rfl (.tmp 23) (.tmp 25) 28 rfl W0.heap.size 3 i0 (.int .i64 0) 1 8 Tryz.underlying28 hi hz0 hz1 hz2 rfl (by decide) _ qs.length _ rfl (Hown.out.alloc _) ⟨wr.heap.size, 0, none⟩ 1 1 [.int .i64 (k : Int)] rfl rfl (oneCell_at _) (oneCell_int _) (by unfold maxLen; omega) (by omega) (by simp; omega) ?_; intro v2 w2 hown2 hg2 _; have hb2 := own_below (Hown.out.alloc _) hg2 (by simp; omega) (hbw.alloc hbw.size _); clear hg2)
        go_roundw
        case rel => exact ⟨k + 1, qs ++ [(k : Int)], by omega, by go_num, by simp; omega, by rw [← Hq.out]; simp, by rw [intVals_snoc, List.length_append, List.length_singleton]; exact hown2, hb2⟩
        case measure => simp [intOf]; omega
      · rw [pos_miss hlt' he] at hq
        have Hq := Lib.hid hq
        rw [hat] at he
        have hd : (es[k].f == n) = false := by simpa using he
        generalize es[k] = x at *
        clear hq he hE0 hat
        go_wp2
        go_roundw
        case rel => exact ⟨k + 1, qs, by omega, by go_num, by omega, Hq.out, Hown.out, hbw⟩
        case measure => simp [intOf]; omega
    · rw [pos_end (by rw [fromsOf_length]; omega), List.append_nil] at hq
      have Hq := Lib.hid hq
      clear hq
      go_wp2
      go_ret
      rw [← Hq.out]
      exact built_end (intVals_length _).symm (own_base Hown.out hb0.size) hbw'
end Go.Proofs.YtpmmjaceehlpiaaGreatDoor
/-
  The law's own copy of a row of heaps, its size guard, its comparison.
-/
namespace Go.Proofs.YtpmmjaceehlpiaaGreatDoor
open Go Go.RowKit

theorem heapInfo : (Tryz.prog.info? 30).map (fun i => (i.zero, i.size, i.bytes)) = some (some (.agg #[.slice none 0 0, .slice none 0 0]), 2, 48) := by kernel_rfl

theorem set2_take (xs : List Value) (o : Nat) (u v : Value) (h : o + 2 ≤ xs.length) : ((xs.set o u).set (o + 1) v).take (o + 2) = xs.take o ++ [u, v] := by
  apply List.ext_getElem?
  intro j
  rcases Nat.lt_or_ge j o with hj | hj
  · rw [List.getElem?_append_left (by simp; omega), List.getElem?_take_of_lt (by omega), List.getElem?_take_of_lt hj]
    simp only [List.getElem?_set]
    rw [if_neg (by omega), if_neg (by omega)]
  · rw [List.getElem?_append_right (by simp; omega), List.length_take, Nat.min_eq_left (by omega)]
    rcases Nat.lt_or_ge j (o + 2) with hj5 | hj5
    · obtain ⟨i, rfl, hi⟩ : ∃ i, j = o + i ∧ i < 2 := ⟨j - o, by omega, by omega⟩
      rw [List.getElem?_take_of_lt hj5, Nat.add_sub_cancel_left]
      simp only [List.getElem?_set, List.length_set]
      match i, hi with
      | 0, _ => simp; omega
      | 1, _ => simp; omega
    · rw [List.getElem?_eq_none (by rw [List.length_take]; omega), List.getElem?_eq_none (by simp; omega)]

theorem HeapsAt.item {W : World} {a : Option Addr} {hs : List Hp} (h : HeapsAt W a hs) (k : Nat) (hk : k < hs.length) :
    ∃ b o, a = some ⟨b, o, none⟩ ∧ b < W.heap.size ∧ W.cell? ⟨b, o + k * 2, none⟩ = some (.slice hs[k].a hs[k].vs.length hs[k].ca) ∧ W.cell? ⟨b, o + k * 2 + 1, none⟩ = some (.slice hs[k].b hs[k].zs.length hs[k].cb) ∧ hs[k].At W := by
  obtain ⟨b, o, rfl, hb, hc⟩ := Row.item hpCells_length (by omega) h.row k hk
  exact ⟨b, o, rfl, hb, hc 0 _ rfl, by rw [Nat.add_assoc]; exact hc 1 _ rfl, h.each _ (List.getElem_mem hk)⟩

/-- A new row that holds copies of the heaps; nothing old has turned. -/
def CopyHeaps (hs : List Hp) (w : World) (e : Ending) (w' : World) : Prop :=
  ∃ ks : List Hp, ks.map Hp.body = hs.map Hp.body ∧ e = .returned (.slice (some ⟨w.heap.size, 0, none⟩) ks.length ks.length) ∧
    w'.ownsRow w.heap.size 30 2 (.slice (some ⟨w.heap.size, 0, none⟩) ks.length ks.length) ks.length (hpVals ks) ∧ HeapsIn (w.heap.size + 1) w' ks ∧ Below w.heap.size w w'

set_option maxHeartbeats 800000 in
theorem toHeaps (a : Option Addr) (cap : Nat) (hs : List Hp) (w : World) (hn : hs.length ≤ 1099511627776) (hl : ∀ x ∈ hs, x.vs.length ≤ 1099511627776 ∧ x.zs.length ≤ 1099511627776) (hrow : HeapsAt w a hs) :
    Calls Tryz.prog 37 #[.slice a hs.length cap] w (CopyHeaps hs w) := by
  obtain ⟨i0, hi, hz0, hz1, hz2⟩ := info_parts heapInfo
  go_enter Tryz.func37, Tryz.ntmps37
  go_wp2_with (at_make; refine wpList_make_full _ rfl _ _ 38 rfl w.heap.size 30 i0 _ 2 Tryz.underlying38 hi hz0 hz1 _ _ _ _ hs.length rfl rfl rfl rfl ?b2 ?b3 (Nat.le_refl _) ?_)
  case b2 => rw [hz2]; omega
  case b3 => unfold maxLen; omega
  intro w0 hown0 hgrow0
  go_wp2
  go_loopw [4] (fun i wr => ∃ (k : Nat) (ks : List Hp) (ys : List Value), k ≤ hs.length ∧ i = .int .i64 k ∧ ks.map Hp.body = (hs.take k).map Hp.body ∧ ys.take (k * 2) = hpVals ks ∧ ys.length = hs.length * 2 ∧
      wr.ownsRow w.heap.size 30 2 (.slice (some ⟨w.heap.size, 0, none⟩) hs.length hs.length) hs.length ys ∧ HeapsIn (w.heap.size + 1) wr ks ∧ Below w.heap.size w wr)
    (fun i _ => hs.length - (intOf i).toNat)
  case atStart => exact ⟨0, [], _, Nat.zero_le _, rfl, rfl, by simp [fl], by simpa using hown0.1, hown0, HeapsIn.nil, (Below.refl _ _).grown hgrow0 (Nat.le_refl _) (fun k h => by cases h)⟩
  case round =>
    obtain ⟨k, ks, ys, hk, rfl, hbd, hys, hyl, hown, hks, hb⟩ := hrel
    by_cases hlt : k < hs.length
    · obtain ⟨b, o, rfl, hbW, c0, c1, hat⟩ := (hrow.below hb).item k hlt
      have hx := hl _ (List.getElem_mem hlt)
      have htk := take_next hs k hlt
      generalize hs[k] = x at *
      have Hbd := Lib.hid hbd
      have Hys := Lib.hid hys
      have Hyl := Lib.hid hyl
      have Htk := Lib.hid htk
      have Hown := Lib.hid hown
      have Hks := Lib.hid hks
      have hgs : w.heap.size < wr.heap.size := (hown.lt _ rfl).2
      clear hbd hys hyl hown htk hks
      go_wp2_with fail
      refine (toHeap x.a x.b x.ca x.cb x.vs x.zs _ hx.1 hx.2 hat).mono ?_
      rintro e w1 ⟨a1, b1, rfl, hin1, hb1⟩
      have ho1 := own_keeps Hown.out hb1
      have hB1 : Below w.heap.size w w1 := hb.trans (hb1.mono hb.size)
      have hl1 : ys.length = hs.length * 2 := Hyl.out
      obtain ⟨old0, hold0⟩ : ∃ old, w1.cell? ⟨w.heap.size, k * 2, none⟩ = some old := ⟨_, (ho1.cellAt (k * 2) (by omega)).trans (List.getElem?_eq_getElem (by omega))⟩
      obtain ⟨old1, hold1⟩ : ∃ old, w1.cell? ⟨w.heap.size, k * 2 + 1, none⟩ = some old := ⟨_, (ho1.cellAt (k * 2 + 1) (by omega)).trans (List.getElem?_eq_getElem (by omega))⟩
      have hf0 := ho1.frozenAt (k * 2)
      have hf1 := ho1.frozenAt (k * 2 + 1)
      have hz1 := hb1.size
      have Ho := Lib.hid ho1
      have Hin := Lib.hid hin1
      have Hk1 := Lib.hid (Hks.out.below hb1)
      have Hnew := Lib.hid (show ∀ y ∈ ks, ∀ j, y.has j → j < wr.heap.size from fun y hy j hj => (Hks.out.has_lt hy hj).2)
      clear ho1 hl1 hin1 hb1 c0 c1
      go_wp2
      go_roundw
      case rel =>
        have h0 := (Ho.out.stored (k * 2) (.slice a1 x.vs.length x.vs.length)).1
        have h1 := (h0.stored (k * 2 + 1) (.slice b1 x.zs.length x.zs.length)).1
        have hg : w.heap.size ≤ w.heap.size := Nat.le_refl _
        have hy0 : Hp.In wr.heap.size w1.heap.size w1 ⟨a1, x.vs.length, b1, x.zs.length, x.vs, x.zs⟩ := Hin.out
        have hy1 : Hp.In (w.heap.size + 1) w1.heap.size w1 ⟨a1, x.vs.length, b1, x.zs.length, x.vs, x.zs⟩ := hy0.mono (by omega) (Nat.le_refl _) (Nat.le_refl _)
        have hs2 := (Hk1.out.snoc hy1 (fun y hy j hj hj2 => by have := Hnew.out y hy j hj; have := (hy0.has_lt hj2).1; omega))
        refine ⟨k + 1, ks ++ [⟨a1, x.vs.length, b1, x.zs.length, x.vs, x.zs⟩], (ys.set (k * 2) (.slice a1 x.vs.length x.vs.length)).set (k * 2 + 1) (.slice b1 x.zs.length x.zs.length), by omega, by go_num, ?_, ?_, ?_, h1, (hs2.store (Nat.lt_succ_self _)).store (Nat.lt_succ_self _), (hB1.setCell hg _).setCell hg _⟩
        · rw [Htk.out, List.map_append, List.map_append, Hbd.out]
          rfl
        · rw [Nat.add_mul, Nat.one_mul, set2_take _ _ _ _ (by rw [Hyl.out]; omega), Hys.out]
          exact (fl_snoc (c := hpCells) ks ⟨a1, x.vs.length, b1, x.zs.length, x.vs, x.zs⟩).symm
        · rw [List.length_set, List.length_set]
          exact Hyl.out
      case measure => simp [intOf]; omega
    · have hk' : k = hs.length := by omega
      have hkl : ks.length = hs.length := by
        have h1 := congrArg List.length hbd
        simp at h1
        omega
      have hfull : ys = hpVals ks := by
        have h1 := hys
        rw [hk', List.take_of_length_le (by rw [hyl]; exact Nat.le_refl _)] at h1
        exact h1
      rw [hk', List.take_length] at hbd
      rw [hfull, ← hkl] at hown
      have HE := Lib.hid (show CopyHeaps hs w (.returned (.slice (some ⟨w.heap.size, 0, none⟩) hs.length hs.length)) wr from ⟨ks, hbd, by rw [hkl], hown, hks, hb⟩)
      clear hk' hkl hfull hbd hys hyl hown hks
      go_wp2
      go_ret
      exact HE.out

/-- The guard's answer over a row of heaps: where it is not negative, their cells and their number fit into the allowance. -/
def SzHeapsEnd (hs : List Hp) (left : Nat) (w : World) (e : Ending) (w' : World) : Prop :=
  ∃ r : Int, e = .returned (.int .i64 r) ∧ Below w.heap.size w w' ∧ r ≤ left ∧ (0 ≤ r → (hs.length : Int) + hpTotal hs + r = left)
set_option maxHeartbeats 800000 in
theorem szHeaps (a : Option Addr) (cap : Nat) (hs : List Hp) (left : Nat) (w : World) (hl : left ≤ 1099511627776) (hlen : hs.length ≤ maxLen) (hws : ∀ x ∈ hs, x.vs.length ≤ maxLen ∧ x.zs.length ≤ maxLen) (hrow : HeapsAt w a hs) :
    Calls Tryz.prog 36 #[.slice a hs.length cap, .int .i64 left] w (SzHeapsEnd hs left w) := by
  unfold maxLen at hlen
  by_cases h0 : left < hs.length
  · have hb : (left : Int) - hs.length < 0 := by omega
    go_enter Tryz.func36, Tryz.ntmps36
    go_wp2
    go_ret
    exact ⟨-1, rfl, Below.refl _ _, by omega, fun h => by omega⟩
  · have hb : ¬ (left : Int) - hs.length < 0 := by omega
    go_enter Tryz.func36, Tryz.ntmps36
    go_wp2
    go_loopw [1, 5] (fun l i wr => ∃ k m : Nat, k ≤ hs.length ∧ i = .int .i64 k ∧ l = .int .i64 m ∧ hs.length + hpTotal (hs.take k) + m = left ∧ Below w.heap.size w wr) (fun _ i _ => hs.length - (intOf i).toNat)
    case atStart => exact ⟨0, left - hs.length, Nat.zero_le _, rfl, by congr 1; omega, by simp [hpTotal]; omega, Below.refl _ _⟩
    case round =>
      obtain ⟨k, m, hk, rfl, rfl, hsum, hb⟩ := hrel
      by_cases hlt : k < hs.length
      · obtain ⟨b, o, rfl, hbW, c0, c1, hat⟩ := (hrow.below hb).item k hlt
        have hok := hws hs[k] (List.getElem_mem hlt)
        have hnx := hpTotal_next hs k hlt
        generalize hs[k] = x at *
        have Hsum := Lib.hid hsum
        have Hnx := Lib.hid hnx
        have hm : m ≤ 1099511627776 := by omega
        clear hsum hnx hat
        go_wp2_with fail
        refine (szHeap x.a x.b x.ca x.cb _ _ m _ hm hok.1 hok.2).mono ?_
        rintro e w1 ⟨r, rfl, hb1, hr, hsz⟩
        have hB := hb.trans (hb1.mono hb.size)
        have Hsz := Lib.hid hsz
        clear hsz c0 c1
        by_cases hneg : r < 0
        · go_wp2
          go_ret
          exact ⟨-1, rfl, hB, by omega, fun h => by omega⟩
        · obtain ⟨r', rfl⟩ : ∃ r' : Nat, r = (r' : Int) := ⟨r.toNat, by omega⟩
          go_wp2
          go_roundw
          case rel =>
            have h1 := Hsum.out
            have h2 := Hnx.out
            have h3 := Hsz.out (by omega)
            exact ⟨k + 1, r', by omega, by go_num, rfl, by simp only [hpSize] at h2; omega, hB⟩
          case measure => simp [intOf]; omega
      · have hk' : k = hs.length := by omega
        have Hk := Lib.hid hk'
        have Hsum := Lib.hid hsum
        clear hk' hsum
        go_wp2
        go_ret
        have h1 := Hsum.out
        rw [Hk.out, List.take_length] at h1
        exact ⟨m, rfl, hb, by omega, fun _ => by omega⟩

set_option maxHeartbeats 800000 in
theorem eqHeapRows (a b : Option Addr) (ca cb : Nat) (hs ks : List Hp) (w : World) (hn : hs.length ≤ maxLen) (hl : ∀ x ∈ hs, x.vs.length ≤ maxLen ∧ x.zs.length ≤ maxLen) (hbd : ks.map Hp.body = hs.map Hp.body) (ha : HeapsAt w a hs) (hb : HeapsAt w b ks) :
    Calls Tryz.prog 39 #[.slice a hs.length ca, .slice b ks.length cb] w (GaveX (.bool true) w) := by
  unfold maxLen at hn
  have hkl : ks.length = hs.length := by
    have h1 := congrArg List.length hbd
    simpa using h1
  rw [hkl]
  go_enter Tryz.func39, Tryz.ntmps39
  go_wp2
  go_loopw [5] (fun i wr => ∃ k : Nat, k ≤ hs.length ∧ i = .int .i64 k ∧ Below w.heap.size w wr) (fun i _ => hs.length - (intOf i).toNat)
  case atStart => exact ⟨0, Nat.zero_le _, rfl, Below.refl _ _⟩
  case round =>
    obtain ⟨k, hk, rfl, hbw⟩ := hrel
    by_cases hlt : k < hs.length
    · have hlk : k < ks.length := by omega
      obtain ⟨ba, oa, rfl, hba, _, _, _⟩ := ha.item k hlt
      obtain ⟨bb, ob, rfl, hbb, _, _, _⟩ := hb.item k hlk
      have hx := hl hs[k] (List.getElem_mem hlt)
      have he : ks[k].body = hs[k].body := by
        have h1 : (ks.map Hp.body)[k]? = (hs.map Hp.body)[k]? := by rw [hbd]
        simpa [hlt, hlk] using h1
      have hA := fun W h => (ha.below (W' := W) h).item k hlt
      have hB := fun W h => (hb.below (W' := W) h).item k hlk
      generalize hs[k] = x at *
      generalize ks[k] = y at *
      obtain ⟨ya, yca, yb, ycb, yv, yz⟩ := y
      simp only [Hp.body, Prod.mk.injEq] at he
      obtain ⟨rfl, rfl⟩ := he
      have hS : ∀ W, Below w.heap.size w W → (W.cell? ⟨ba, oa + k * 2, none⟩ = some (.slice x.a x.vs.length x.ca) ∧ W.cell? ⟨ba, oa + k * 2 + 1, none⟩ = some (.slice x.b x.zs.length x.cb)) ∧ (W.cell? ⟨bb, ob + k * 2, none⟩ = some (.slice ya x.vs.length yca) ∧ W.cell? ⟨bb, ob + k * 2 + 1, none⟩ = some (.slice yb x.zs.length ycb)) := by
        intro W h
        obtain ⟨b1, o1, e1, _, p0, p1, _⟩ := hA W h
        obtain ⟨b2, o2, e2, _, q0, q1, _⟩ := hB W h
        injection e1 with e1
        injection e1 with e1 e1' _
        injection e2 with e2
        injection e2 with e2 e2' _
        subst e1 e1' e2 e2'
        exact ⟨⟨p0, p1⟩, q0, q1⟩
      have hR : ∀ W, Below w.heap.size w W → HeapAt W x.a x.b x.vs x.zs ∧ HeapAt W ya yb x.vs x.zs := fun W h => by
        obtain ⟨_, _, _, _, _, _, p⟩ := hA W h
        obtain ⟨_, _, _, _, _, _, q⟩ := hB W h
        exact ⟨p, q⟩
      have HS := Lib.hid hS
      have HR := Lib.hid hR
      have HA := Lib.hid ha
      have HB := Lib.hid hb
      clear hA hB hS hR ha hb hbd
      go_wp2_with fail
      go_region_held3 (fun W => (W.cell? ⟨ba, oa + k * 2, none⟩ = some (.slice x.a x.vs.length x.ca) ∧ W.cell? ⟨ba, oa + k * 2 + 1, none⟩ = some (.slice x.b x.zs.length x.cb)) ∧ (W.cell? ⟨bb, ob + k * 2, none⟩ = some (.slice ya x.vs.length yca) ∧ W.cell? ⟨bb, ob + k * 2 + 1, none⟩ = some (.slice yb x.zs.length ycb)))
        (first | with_reducible exact HS.out _ (Below.drew hbw) | with_reducible exact HS.out _ hB1)
        (first | (go_at_call 29; (with_reducible refine (eqHeaps x.a x.b ya yb x.ca x.cb yca ycb x.vs x.zs _ hx.1 hx.2 (HR.out _ (Below.drew hbw)).1 (HR.out _ (Below.drew hbw)).2).mono ?_); rintro e w1 ⟨rfl, hb1⟩; have hB1 := (Below.drew hbw).trans (hb1.mono (Below.drew hbw).size)))
      go_wp2
      go_roundw
      case rel => exact ⟨k + 1, by omega, by go_num, hB1⟩
      case measure => simp [intOf]; omega
    · go_wp2
      go_ret
      exact ⟨rfl, hbw⟩
end Go.Proofs.YtpmmjaceehlpiaaGreatDoor
/-
  The law writes marks into the heaps of a row, and looks later whether they are still there.
-/
namespace Go.Proofs.YtpmmjaceehlpiaaGreatDoor
open Go Go.RowKit

/-- A heap that bears the marks from k on. -/
def markHp (k : Nat) (x : Hp) : Hp := ⟨x.a, x.ca, x.b, x.cb, numsFrom k x.vs.length, numsFrom (k + x.vs.length) x.zs.length⟩
def markHps (k : Nat) : List Hp → List Hp
  | [] => []
  | x :: hs => markHp k x :: markHps (k + hpSize x) hs
theorem markHps_length : ∀ (k : Nat) (hs : List Hp), (markHps k hs).length = hs.length
  | _, [] => rfl
  | k, x :: hs => by simp [markHps, markHps_length]
theorem hpTotal_cons (x : Hp) (hs : List Hp) : hpTotal (x :: hs) = hpSize x + hpTotal hs := by simp [hpTotal]
theorem markHps_snoc : ∀ (k : Nat) (hs : List Hp) (x : Hp), markHps k (hs ++ [x]) = markHps k hs ++ [markHp (k + hpTotal hs) x]
  | k, [], x => by simp [markHps, hpTotal]
  | k, y :: hs, x => by
    show markHp k y :: markHps (k + hpSize y) (hs ++ [x]) = markHp k y :: (markHps (k + hpSize y) hs ++ _)
    rw [markHps_snoc, hpTotal_cons, Nat.add_assoc]
theorem hpCells_mark (k : Nat) (x : Hp) : hpCells (markHp k x) = hpCells x := by simp [hpCells, markHp, numsFrom_length]
theorem hpVals_marks : ∀ (k : Nat) (hs : List Hp), hpVals (markHps k hs) = hpVals hs
  | _, [] => rfl
  | k, x :: hs => by
    show hpCells (markHp k x) ++ hpVals (markHps (k + hpSize x) hs) = hpCells x ++ hpVals hs
    rw [hpCells_mark, hpVals_marks]
theorem hpSize_mark (k : Nat) (x : Hp) : hpSize (markHp k x) = hpSize x := by simp [hpSize, markHp, numsFrom_length]
theorem has_mark {k : Nat} {x : Hp} {j : Nat} : (markHp k x).has j ↔ x.has j := by simp [Hp.has, markHp, numsFrom_length]
/-- The first j heaps are marked. -/
def curM (k : Nat) (hs : List Hp) (j : Nat) : List Hp := markHps k (hs.take j) ++ hs.drop j
theorem curM_zero (k : Nat) (hs : List Hp) : curM k hs 0 = hs := by simp [curM, markHps]
theorem curM_full (k : Nat) (hs : List Hp) : curM k hs hs.length = markHps k hs := by simp [curM]
theorem curM_length (k : Nat) (hs : List Hp) {j : Nat} (h : j ≤ hs.length) : (curM k hs j).length = hs.length := by simp [curM, markHps_length]; omega
theorem curM_at (k : Nat) (hs : List Hp) {j : Nat} (h : j < hs.length) : (curM k hs j)[j]'(by rw [curM_length k hs (by omega)]; exact h) = hs[j] := by
  have hl : (markHps k (hs.take j)).length = j := by rw [markHps_length]; simp; omega
  simp only [curM]
  rw [List.getElem_append_right (by omega)]
  simp [hl]
theorem curM_next (k : Nat) (hs : List Hp) {j : Nat} (h : j < hs.length) : curM k hs (j + 1) = (curM k hs j).set j (markHp (k + hpTotal (hs.take j)) hs[j]) := by
  have hl : (markHps k (hs.take j)).length = j := by rw [markHps_length]; simp; omega
  unfold curM
  rw [take_next hs j h, markHps_snoc, List.drop_eq_getElem_cons h, List.set_append_right _ _ (by omega), hl, Nat.sub_self, List.set_cons_zero, List.append_assoc]
  rfl
/-- A block of one of the heaps. -/
def hasAny (hs : List Hp) (k : Nat) : Prop := ∃ x ∈ hs, x.has k

theorem marked_in {lo m : Nat} {W W1 W2 : World} {x : Hp} {S : Nat → Prop} (hx : x.In lo W.heap.size W) (hS : ∀ k, x.has k → S k)
    (ho1 : W1.ownsRow lo 3 1 (.slice x.a x.vs.length x.ca) x.vs.length (intVals (numsFrom m x.vs.length))) (hg1 : W.grownBy W1 (Value.slice x.a x.vs.length x.ca).ownBlock)
    (ho2 : W2.ownsRow lo 3 1 (.slice x.b x.zs.length x.cb) x.zs.length (intVals (numsFrom (m + x.vs.length) x.zs.length))) (hg2 : W1.grownBy W2 (Value.slice x.b x.zs.length x.cb).ownBlock) :
    (markHp m x).In lo W2.heap.size W2 ∧ Only S W W2 ∧ (∀ k, k < W.heap.size → ¬ x.has k → W2.heap[k]? = W.heap[k]?) := by
  have hv := hx.v
  have hz := hx.z
  have hap := hx.apart
  rw [intVals_length] at hv hz
  rw [intVals_length, intVals_length] at hap
  have e1 : (intVals (numsFrom m x.vs.length)).length = x.vs.length := by rw [intVals_length, numsFrom_length]
  have e2 : (intVals (numsFrom (m + x.vs.length) x.zs.length)).length = x.zs.length := by rw [intVals_length, numsFrom_length]
  have hs1 : W.heap.size ≤ W1.heap.size := hg1.size
  have hs2 : W1.heap.size ≤ W2.heap.size := hg2.size
  have ho1' := own_other ho1 hg2 fun k hk e => hap k hk e.symm
  refine ⟨⟨?_, ?_, ?_⟩, (Only.of_grown hg1 fun k hk => hS k (.inl hk)).trans (Only.of_grown hg2 fun k hk => hS k (.inr hk)), fun k hk hn => ?_⟩
  · show OwnIn lo W2.heap.size W2 3 1 (.slice x.a (intVals (numsFrom m x.vs.length)).length x.ca) (intVals (numsFrom m x.vs.length)).length (intVals (numsFrom m x.vs.length))
    rw [e1]
    exact ⟨Nat.le_refl _, ho1', fun k hk => Nat.lt_of_lt_of_le (hv.2.2 k hk) (Nat.le_trans hs1 hs2)⟩
  · show OwnIn lo W2.heap.size W2 3 1 (.slice x.b (intVals (numsFrom (m + x.vs.length) x.zs.length)).length x.cb) (intVals (numsFrom (m + x.vs.length) x.zs.length)).length (intVals (numsFrom (m + x.vs.length) x.zs.length))
    rw [e2]
    exact ⟨Nat.le_refl _, ho2, fun k hk => Nat.lt_of_lt_of_le (hz.2.2 k hk) (Nat.le_trans hs1 hs2)⟩
  · show ∀ j, (Value.slice x.a (intVals (numsFrom m x.vs.length)).length x.ca).ownBlock = some j → (Value.slice x.b (intVals (numsFrom (m + x.vs.length) x.zs.length)).length x.cb).ownBlock ≠ some j
    rw [e1, e2]
    exact hap
  · exact (hg2.block k (Nat.lt_of_lt_of_le hk hs1) fun e => hn (.inr e.symm)).trans (hg1.block k hk fun e => hn (.inl e.symm))

/-- Marks laid into the heaps of a row. -/
def MarkedHeaps (lo k : Nat) (hs : List Hp) (w : World) (e : Ending) (w' : World) : Prop :=
  e = .returned (.int .i64 ((k + hpTotal hs : Nat) : Int)) ∧ HeapsIn lo w' (markHps k hs) ∧ Only (hasAny hs) w w'
set_option maxHeartbeats 1600000 in
theorem markHeapRows (lo k : Nat) (a : Option Addr) (cap : Nat) (hs : List Hp) (w : World) (hn : hs.length ≤ 1099511627776) (hk : k + hpTotal hs ≤ 54975581388) (hrow : Row w w.heap.size a (hpVals hs)) (hoff : ∀ b o, a = some ⟨b, o, none⟩ → ¬ hasAny hs b) (h : HeapsIn lo w hs) :
    Calls Tryz.prog 40 #[.slice a hs.length cap, .int .i64 k] w (MarkedHeaps lo k hs w) := by
  go_enter Tryz.func40, Tryz.ntmps40
  go_wp2
  go_loopw [1, 5] (fun m i wr => ∃ j : Nat, j ≤ hs.length ∧ i = .int .i64 j ∧ m = .int .i64 ((k + hpTotal (hs.take j) : Nat) : Int) ∧ HeapsIn lo wr (curM k hs j) ∧ Only (hasAny hs) w wr) (fun _ i _ => hs.length - (intOf i).toNat)
  case atStart => exact ⟨0, Nat.zero_le _, rfl, by simp [hpTotal], by rw [curM_zero]; exact h, Only.refl⟩
  case round =>
    obtain ⟨j, hj, rfl, rfl, hin, ht⟩ := hrel
    by_cases hlt : j < hs.length
    · obtain ⟨b, o, rfl, hbW, hc⟩ := Row.item hpCells_length (by omega) hrow j hlt
      have hnb := hoff b o rfl
      have hmem : hs[j] ∈ hs := List.getElem_mem hlt
      have hcur := curM_at k hs hlt
      have hlc : j < (curM k hs j).length := by rw [curM_length k hs (by omega)]; exact hlt
      have hx := hin.each _ (List.getElem_mem hlc)
      rw [hcur] at hx
      have htot := hpTotal_next hs j hlt
      have hle : hpTotal (hs.take (j + 1)) ≤ hpTotal hs := hpTotal_take hs (j + 1)
      have hset := curM_next k hs hlt
      have hS : ∀ i, hs[j].has i → hasAny hs i := fun i hi => ⟨_, hmem, hi⟩
      have hxb : ¬ hs[j].has b := fun hb => hnb ⟨_, hmem, hb⟩
      have hbr : b < wr.heap.size := Nat.lt_of_lt_of_le hbW ht.size
      have c0 : wr.cell? ⟨b, o + j * 2, none⟩ = some (.slice hs[j].a hs[j].vs.length hs[j].ca) := (World.cell?_of_block (ht.block b hbW hnb)).trans (hc 0 _ rfl)
      have c1 : wr.cell? ⟨b, o + j * 2 + 1, none⟩ = some (.slice hs[j].b hs[j].zs.length hs[j].cb) := (World.cell?_of_block (ht.block b hbW hnb)).trans (hc 1 _ rfl)
      have hstep : ∀ W2, Only (hasAny hs) wr W2 → (markHp (k + hpTotal (hs.take j)) hs[j]).In lo W2.heap.size W2 → (∀ i, i < wr.heap.size → ¬ hs[j].has i → W2.heap[i]? = wr.heap[i]?) → HeapsIn lo W2 (curM k hs (j + 1)) ∧ Only (hasAny hs) w W2 := by
        intro W2 ht2 hy hb
        refine ⟨?_, ht.trans ht2⟩
        rw [hset]
        exact hin.set hlc ht2.size (by rw [hcur]; exact hb) hy (fun i hi => by rw [hcur]; exact has_mark.1 hi)
      have hm : hpSize hs[j] = hs[j].vs.length + hs[j].zs.length := rfl
      generalize hs[j] = x at *
      generalize hpTotal (hs.take j) = T at *
      have HST := Lib.hid hstep
      have HX := Lib.hid hx
      have HTOT := Lib.hid htot
      have hkm : k + T + x.vs.length + x.zs.length ≤ 54975581388 := by omega
      have hxv := hx.v.2.1
      have hxz := hx.z.2.1
      rw [intVals_length] at hxv hxz
      have hap := hx.apart
      rw [intVals_length, intVals_length] at hap
      clear hstep hx hset hcur hin htot hc
      go_wp2_with fail
      refine (markInts lo (k + T) x.vs.length x.a x.ca _ _ (by omega) (by omega) hxv).mono ?_
      rintro e w1 ⟨rfl, ho1, hg1⟩
      have d1 : w1.cell? ⟨b, o + j * 2 + 1, none⟩ = some (.slice x.b x.zs.length x.cb) := (World.cell?_of_block (hg1.block b hbr fun e => hxb (.inl e.symm))).trans c1
      have hz1 := own_other hxz hg1 fun i hi e => hap i e.symm hi
      clear c0 c1
      go_wp2_with fail
      have ek : ((k + T : Nat) : Int) + (x.vs.length : Int) = ((k + T + x.vs.length : Nat) : Int) := by omega
      try rw [ek]
      refine (markInts lo (k + T + x.vs.length) x.zs.length x.b x.cb _ _ (by omega) (by omega) hz1).mono ?_
      rintro e w2 ⟨rfl, ho2, hg2⟩
      obtain ⟨hy, ht2, hb2⟩ := marked_in HX.out hS ho1 hg1 ho2 hg2
      have HF := Lib.hid (HST.out w2 ht2 hy hb2)
      have hkT : ((k + T + x.vs.length + x.zs.length : Nat) : Int) = ((k + hpTotal (hs.take (j + 1)) : Nat) : Int) := by rw [HTOT.out, hm]; omega
      rw [hkT]
      clear ek hkT hy ht2 hb2 ho1 ho2 hg1 hg2 hz1 hxv hxz hap d1 hkm
      go_wp2
      go_roundw
      case rel => exact ⟨j + 1, by omega, by go_num, rfl, HF.out.1, HF.out.2⟩
      case measure => simp [intOf]; omega
    · have hj' : j = hs.length := by omega
      subst hj'
      rw [List.take_length] at *
      rw [curM_full] at hin
      have HE := Lib.hid (show MarkedHeaps lo k hs w (.returned (.int .i64 ((k + hpTotal hs : Nat) : Int))) wr from ⟨rfl, hin, ht⟩)
      clear hin ht
      go_wp2
      go_ret
      exact HE.out

theorem markHp_at (k : Nat) : ∀ (hs : List Hp) (j : Nat) (h : j < hs.length), (markHps k hs)[j]'(by rw [markHps_length]; exact h) = markHp (k + hpTotal (hs.take j)) hs[j]
  | x :: hs, 0, _ => by simp [markHps, hpTotal]
  | x :: hs, j + 1, h => by
    have h' : j < hs.length := by simpa using h
    have := markHp_at (k + hpSize x) hs j h'
    simp only [markHps, List.getElem_cons_succ, List.take_succ_cons]
    rw [this, hpTotal_cons, Nat.add_assoc]

end Go.Proofs.YtpmmjaceehlpiaaGreatDoor
/-
  Which programs are right: the program's answer and the model's.
-/
namespace Go.Proofs.YtpmmjaceehlpiaaGreatDoor
open Go Go.RowKit

def pointB (p n : Int) : Bool := decide (0 ≤ n) && decide (n < p)
def edB (ss : List ByteArray) (p : Int) (x : Ed) : Bool := pointB p x.f && pointB p x.t && stmtB ss x.k x.a x.b
def progB (ss : List ByteArray) (p : Int) (es : List Ed) : Bool := goodVars ss && decide (1 ≤ p) && decide (p ≤ 12) && decide (es.length ≤ 24) && es.all (edB ss p)
theorem all_at {es : List Ed} {f : Ed → Bool} {k : Nat} (h : k < es.length) (hf : f es[k] = false) : es.all f = false := by
  rw [List.all_eq_false]
  exact ⟨es[k], List.getElem_mem h, by simp [hf]⟩
theorem all_next {es : List Ed} {f : Ed → Bool} {k : Nat} (h : k < es.length) (ha : (es.take k).all f = true) (hf : f es[k] = true) : (es.take (k + 1)).all f = true := by
  rw [take_next es k h, List.all_append, ha]
  simp [hf]

theorem progB_false {ss : List ByteArray} {p : Int} {es : List Ed} (h : ¬ (goodVars ss = true ∧ 1 ≤ p ∧ p ≤ 12 ∧ es.length ≤ 24 ∧ es.all (edB ss p) = true)) : progB ss p es = false := by
  cases hh : progB ss p es with
  | false => rfl
  | true => exact absurd (by simpa [progB, and_assoc] using hh) h
theorem progB_true {ss : List ByteArray} {p : Int} {es : List Ed} (h1 : goodVars ss = true) (h2 : 1 ≤ p) (h3 : p ≤ 12) (h4 : es.length ≤ 24) (h5 : es.all (edB ss p) = true) : progB ss p es = true := by
  simp only [progB, h1, h2, h3, h4, h5, decide_true, Bool.and_self]

theorem implIsPoint (a b : Option Addr) (na ca nb cb : Nat) (p n : Int) (w : World) : Calls Tryz.prog 92 #[.agg #[.slice a na ca, .int .i64 p, .slice b nb cb], .int .i64 n] w (GaveB (.bool (pointB p n)) w) := by
  by_cases h0 : 0 ≤ n <;> by_cases h1 : n < p
  all_goals
    go_enter Tryz.func92, Tryz.ntmps92
    go_wp2
    go_ret
    exact ⟨by simp [pointB, h0, h1], (Below.refl _ _).alloc (Nat.le_refl _) _⟩

set_option maxHeartbeats 3200000 in
theorem implIsProgram (a b : Option Addr) (ca cb : Nat) (ss : List ByteArray) (p : Int) (es : List Ed) (w : World) (hs : ss.length ≤ maxLen ∧ (∀ s ∈ ss, s.size ≤ maxLen) ∧ Row w w.heap.size a (strVals ss)) (he : es.length ≤ maxLen ∧ Row w w.heap.size b (edVals es)) (hT : HasNamesTable w) :
    Calls Tryz.prog 50 #[.agg #[.slice a ss.length ca, .int .i64 p, .slice b es.length cb]] w (GaveB (.bool (progB ss p es)) w) := by
  have hlen := he.1
  unfold maxLen at hlen
  have key : ∀ W, Below w.heap.size w W → Row W W.heap.size a (strVals ss) := fun W h => (hs.2.2.below h).grow h.size
  go_enter Tryz.func50, Tryz.ntmps50
  go_wp2_with fail
  obtain ⟨W0, hW0, hb0, hs0, hA0⟩ := one_box w (.slice a ss.length ca) (.int .i64 p) (.slice b es.length cb) 27
  rw [hW0]
  clear hW0
  refine (implAreVars a ca ss _ hs.1 hs.2.1 (key _ hb0)).mono ?_
  rintro e w1 ⟨rfl, hb1⟩
  have hB1 := hb0.trans (hb1.mono hb0.size)
  have hA1 := hA0.keep hs0 hb1
  obtain ⟨c0, c1, c2⟩ := hA0.keep hs0 hb1
  have hs1 : w.heap.size < w1.heap.size := Nat.lt_of_lt_of_le hs0 hb1.size
  clear hb1 hA0 hs0 hb0
  generalize hg : goodVars ss = gv
  cases gv with
  | false =>
    have hf := Lib.hid (progB_false (p := p) (es := es) (fun h => by rw [hg] at h; cases h.1))
    go_wp2
    go_ret
    exact ⟨by rw [hf.out]; rfl, hB1⟩
  | true =>
    by_cases h1 : 1 ≤ p
    · by_cases h2 : p ≤ 12
      · by_cases h3 : es.length ≤ 24
        · go_wp2
          clear c0 c1 c2
          go_loopw [28] (fun i wr => ∃ k : Nat, k ≤ es.length ∧ i = .int .i64 k ∧ (es.take k).all (edB ss p) = true ∧ Below w1.heap.size w1 wr) (fun i _ => es.length - (intOf i).toNat)
          case atStart => exact ⟨0, Nat.zero_le _, rfl, rfl, Below.refl _ _⟩
          case round =>
            obtain ⟨k, hk, rfl, hall, hb⟩ := hrel
            have hBr := hB1.trans (hb.mono hB1.size)
            by_cases hlt : k < es.length
            · obtain ⟨b0, o, rfl, hbW, hE0⟩ := he.2.edge k hlt
              obtain ⟨c0, c1, c2, c3, c4⟩ := hE0.below hBr hbW
              have hno : edB ss p es[k] = false → progB ss p es = false := fun hf => progB_false fun h => by rw [all_at hlt hf] at h; cases h.2.2.2.2
              have hyes : edB ss p es[k] = true → (es.take (k + 1)).all (edB ss p) = true := fun hf => all_next hlt hall hf
              generalize es[k] = x at *
              have hbox := hA1.keep hs1 hb
              have hsr : w.heap.size < wr.heap.size := Nat.lt_of_lt_of_le hs1 hb.size
              obtain ⟨e0, e1, e2⟩ := hbox
              clear hE0
              have Hall := Lib.hid hall
              clear hall
              go_wp2_with fail
              obtain ⟨W5, hW5, hb5, hs5, hX5⟩ := edge_box wr x 85
              rw [hW5]
              clear hW5
              have hAt : ∀ W, Below W5.heap.size W5 W → (Box3 W w.heap.size (.slice a ss.length ca) (.int .i64 p) (.slice (some ⟨b0, o, none⟩) es.length cb) ∧ Box5 W wr.heap.size x) ∧ Below w1.heap.size w1 W ∧ Below w.heap.size w W := fun W h => by
                have h5 : Below wr.heap.size wr W := hb5.trans (h.mono hb5.size)
                have h1 := hb.trans (h5.mono hb.size)
                exact ⟨⟨hA1.keep hs1 h1, hX5.keep hs5 h⟩, h1, hB1.trans (h1.mono hB1.size)⟩
              clear c0 c1 c2 c3 c4 e0 e1 e2 hX5 hb5 hs5
              refine (implIsPoint _ _ _ _ _ _ p x.f _).mono ?_
              rintro e w2 ⟨rfl, hb2⟩
              obtain ⟨⟨⟨e0, e1, e2⟩, ⟨c0, c1, c2, c3, c4⟩⟩, hb12, hBw2⟩ := hAt _ hb2
              cases hpf : pointB p x.f with
              | false =>
                have hf := Lib.hid (hno (by simp [edB, hpf]))
                go_wp2
                go_ret
                exact ⟨by rw [hf.out]; rfl, hBw2⟩
              | true =>
                go_wp2_with fail
                refine (implIsPoint _ _ _ _ _ _ p x.t _).mono ?_
                clear e0 e1 e2 c0 c1 c2 c3 c4
                rintro e w3 ⟨rfl, hb3⟩
                have hb3 := hb2.trans (hb3.mono hb2.size)
                obtain ⟨⟨⟨e0, e1, e2⟩, ⟨c0, c1, c2, c3, c4⟩⟩, hb13, hBw3⟩ := hAt _ hb3
                cases hpt : pointB p x.t with
                | false =>
                  have hf := Lib.hid (hno (by simp [edB, hpt]))
                  go_wp2
                  go_ret
                  exact ⟨by rw [hf.out]; rfl, hBw3⟩
                | true =>
                  go_wp2_with fail
                  refine (implIsStmt a ca ss x.k x.a x.b _ hs.1 hs.2.1 (key _ hBw3) (hT.keeps hBw3)).mono ?_
                  clear e0 e1 e2 c0 c1 c2 c3 c4
                  rintro e w4 ⟨rfl, hb4⟩
                  have hb4 := hb3.trans (hb4.mono hb3.size)
                  obtain ⟨_, hb14, hBw4⟩ := hAt _ hb4
                  cases hst : stmtB ss x.k x.a x.b with
                  | false =>
                    have hf := Lib.hid (hno (by simp [edB, hst]))
                    go_wp2
                    go_ret
                    exact ⟨by rw [hf.out]; rfl, hBw4⟩
                  | true =>
                    have hy := Lib.hid (hyes (by simp [edB, hpf, hpt, hst]))
                    go_wp2
                    go_roundw
                    case rel => exact ⟨k + 1, by omega, by go_num, hy.out, hb14⟩
                    case measure => simp [intOf]; omega
            · have hk' : k = es.length := by omega
              rw [hk', List.take_length] at hall
              have ht := Lib.hid (progB_true hg h1 h2 h3 hall)
              clear hall
              go_wp2
              go_ret
              exact ⟨by rw [ht.out]; rfl, hBr⟩
        · have hf := Lib.hid (progB_false (ss := ss) (p := p) (es := es) (fun h => h3 h.2.2.2.1))
          go_wp2
          go_ret
          exact ⟨by rw [hf.out]; rfl, hB1⟩
      · have hf := Lib.hid (progB_false (ss := ss) (p := p) (es := es) (fun h => h2 h.2.2.1))
        go_wp2
        go_ret
        exact ⟨by rw [hf.out]; rfl, hB1⟩
    · have hf := Lib.hid (progB_false (ss := ss) (p := p) (es := es) (fun h => h1 h.2.1))
      go_wp2
      go_ret
      exact ⟨by rw [hf.out]; rfl, hB1⟩

theorem wrap_pred {p : Int} (h : 1 ≤ p) (h' : p ≤ 9223372036854775807) : IntKind.i64.wrap (p - 1) = p - 1 := by
  simp [IntKind.wrap, IntKind.bits, IntKind.signed]
  omega

set_option maxHeartbeats 3200000 in
theorem specIsProgram (a b : Option Addr) (ca cb : Nat) (ss : List ByteArray) (p : Int) (es : List Ed) (w : World) (hs : ss.length ≤ maxLen ∧ (∀ s ∈ ss, s.size ≤ maxLen) ∧ Row w w.heap.size a (strVals ss)) (hp : -9223372036854775808 ≤ p ∧ p ≤ 9223372036854775807) (he : es.length ≤ maxLen ∧ Row w w.heap.size b (edVals es)) :
    Calls Tryz.prog 56 #[.agg #[.slice a ss.length ca, .int .i64 p, .slice b es.length cb]] w (GaveB (.bool (progB ss p es)) w) := by
  have hlen := he.1
  unfold maxLen at hlen
  have key : ∀ W, Below w.heap.size w W → Row W W.heap.size a (strVals ss) := fun W h => (hs.2.2.below h).grow h.size
  obtain ⟨q, hq⟩ : ∃ q, IntKind.i64.wrap (p - 1) = q := ⟨_, rfl⟩
  have hq1 : 1 ≤ p → q = p - 1 := fun h => by rw [← hq, wrap_pred h hp.2]
  go_enter Tryz.func56, Tryz.ntmps56
  go_wp2
  obtain ⟨W0, hW0, hb0, hs0, hA0⟩ := one_box w (.slice a ss.length ca) (.int .i64 p) (.slice b es.length cb) 27
  rw [hW0]
  clear hW0
  go_loopw [3] (fun i wr => ∃ k : Nat, k ≤ es.length ∧ i = .int .i64 k ∧ (1 ≤ p → (es.take k).all (edB ss p) = true) ∧ Below W0.heap.size W0 wr) (fun i _ => es.length - (intOf i).toNat)
  case atStart => exact ⟨0, Nat.zero_le _, rfl, fun _ => rfl, Below.refl _ _⟩
  case round =>
    obtain ⟨k, hk, rfl, hall, hb⟩ := hrel
    have hBr := hb0.trans (hb.mono hb0.size)
    obtain ⟨e0, e1, e2⟩ := hA0.keep hs0 hb
    have hsr : w.heap.size < wr.heap.size := Nat.lt_of_lt_of_le hs0 hb.size
    by_cases hlt : k < es.length
    · obtain ⟨b0, o, rfl, hbW, hE0⟩ := he.2.edge k hlt
      obtain ⟨c0, c1, c2, c3, c4⟩ := hE0.below hBr hbW
      have hno : (1 ≤ p → edB ss p es[k] = false) → progB ss p es = false := fun hf => progB_false fun h => by have h' := hf h.2.1; rw [all_at hlt h'] at h; cases h.2.2.2.2
      have hyes : (1 ≤ p → edB ss p es[k] = true) → (1 ≤ p → (es.take (k + 1)).all (edB ss p) = true) := fun hf h => all_next hlt (hall h) (hf h)
      generalize es[k] = x at *
      clear hE0 hall
      go_wp2_with fail
      obtain ⟨W5, hW5, hb5, hs5, hX5⟩ := edge_box wr x 85
      rw [hW5]
      clear hW5
      have hAt : ∀ W, Below W5.heap.size W5 W → (Box3 W w.heap.size (.slice a ss.length ca) (.int .i64 p) (.slice (some ⟨b0, o, none⟩) es.length cb) ∧ Box5 W wr.heap.size x) ∧ Below W0.heap.size W0 W ∧ Below w.heap.size w W := fun W h => by
        have h5 : Below wr.heap.size wr W := hb5.trans (h.mono hb5.size)
        have h1 := hb.trans (h5.mono hb.size)
        exact ⟨⟨hA0.keep hs0 h1, hX5.keep hs5 h⟩, h1, hb0.trans (h1.mono hb0.size)⟩
      clear c0 c1 c2 c3 c4 e0 e1 e2 hX5 hb5 hs5
      obtain ⟨⟨⟨e0, e1, e2⟩, ⟨c0, c1, c2, c3, c4⟩⟩, hb12, hBw2⟩ := hAt _ (Below.refl _ _)
      refine (specIn3 x.f 0 q _).mono ?_
      rintro e w2 ⟨rfl, rfl⟩
      cases hpf : (decide (0 ≤ x.f) && decide (x.f ≤ q)) with
      | false =>
        have hf := Lib.hid (hno fun h => by rw [hq1 h] at hpf; have : pointB p x.f = false := by { simp [pointB] at hpf ⊢; intro h0; have := hpf h0; omega }; simp [edB, this])
        go_wp2
        go_ret
        exact ⟨by rw [hf.out]; rfl, hBw2⟩
      | true =>
        go_wp2_with fail
        refine (specIn3 x.t 0 q _).mono ?_
        rintro e w3 ⟨rfl, rfl⟩
        cases hpt : (decide (0 ≤ x.t) && decide (x.t ≤ q)) with
        | false =>
          have hf := Lib.hid (hno fun h => by rw [hq1 h] at hpt; have : pointB p x.t = false := by { simp [pointB] at hpt ⊢; intro h0; have := hpt h0; omega }; simp [edB, this])
          go_wp2
          go_ret
          exact ⟨by rw [hf.out]; rfl, hBw2⟩
        | true =>
          go_wp2_with fail
          refine (specIsStmt a ca ss x.k x.a x.b _ hs.1 hs.2.1 (key _ hBw2)).mono ?_
          clear e0 e1 e2 c0 c1 c2 c3 c4
          rintro e w4 ⟨rfl, hb4⟩
          obtain ⟨_, hb14, hBw4⟩ := hAt _ hb4
          cases hst : stmtB ss x.k x.a x.b with
          | false =>
            have hf := Lib.hid (hno fun _ => by simp [edB, hst])
            go_wp2
            go_ret
            exact ⟨by rw [hf.out]; rfl, hBw4⟩
          | true =>
            have hy := Lib.hid (hyes fun h => by
              rw [hq1 h] at hpf hpt
              have h1 : pointB p x.f = true := by { simp [pointB] at hpf ⊢; omega }
              have h2 : pointB p x.t = true := by { simp [pointB] at hpt ⊢; omega }
              simp [edB, h1, h2, hst])
            go_wp2
            go_roundw
            case rel => exact ⟨k + 1, by omega, by go_num, hy.out, hb14⟩
            case measure => simp [intOf]; omega
    · have hk' : k = es.length := by omega
      rw [hk', List.take_length] at hall
      have Hall := Lib.hid hall
      clear hall
      go_wp2_with fail
      refine (specAreVars a ca ss _ hs.1 hs.2.1 (key _ hBr)).mono ?_
      rintro e w2 ⟨rfl, rfl⟩
      cases hg : goodVars ss with
      | false =>
        have hf := Lib.hid (progB_false (p := p) (es := es) (fun h => by rw [hg] at h; cases h.1))
        go_wp2
        go_ret
        exact ⟨by rw [hf.out]; rfl, hBr⟩
      | true =>
        go_wp2_with fail
        refine (specIn3 p 1 12 _).mono ?_
        rintro e w3 ⟨rfl, rfl⟩
        cases hpp : (decide (1 ≤ p) && decide (p ≤ 12)) with
        | false =>
          have hf := Lib.hid (progB_false (ss := ss) (p := p) (es := es) (fun h => by simp [h.2.1, h.2.2.1] at hpp))
          go_wp2
          go_ret
          exact ⟨by rw [hf.out]; rfl, hBr⟩
        | true =>
          have hpp' : 1 ≤ p ∧ p ≤ 12 := by simpa using hpp
          by_cases h3 : es.length ≤ 24
          · have ht := Lib.hid (progB_true hg hpp'.1 hpp'.2 h3 (Hall.out hpp'.1))
            go_wp2
            go_ret
            exact ⟨by rw [ht.out]; simp; omega, hBr⟩
          · have hf := Lib.hid (progB_false (ss := ss) (p := p) (es := es) (fun h => h3 h.2.2.2.1))
            go_wp2
            go_ret
            exact ⟨by rw [hf.out]; simp; omega, hBr⟩
end Go.Proofs.YtpmmjaceehlpiaaGreatDoor
/-
  Pure: what a statement makes of a valid heap is a valid heap: no action lays a ring.
-/
namespace Go.Proofs.YtpmmjaceehlpiaaGreatDoor
open Go Go.RowKit

/-- From c it is r steps to null. -/
def EndsIn (zs : List Int) : Nat → Int → Prop
  | 0, c => c = -1
  | n + 1, c => isC zs c = true ∧ EndsIn zs n (nextC zs c)
def Ends (zs : List Int) (c : Int) : Prop := ∃ r, EndsIn zs r c
theorem Ends.stop {zs : List Int} : Ends zs (-1) := ⟨0, rfl⟩
theorem Ends.step {zs : List Int} {c : Int} (h : isC zs c = true) (k : Ends zs (nextC zs c)) : Ends zs c := k.elim fun r hr => ⟨r + 1, h, hr⟩
theorem endsIn_one {zs : List Int} : ∀ {r s : Nat} {c : Int}, EndsIn zs r c → EndsIn zs s c → r = s
  | 0, 0, _, _, _ => rfl
  | 0, s + 1, c, h, k => by
    obtain rfl : c = -1 := h
    have := k.1
    rw [isC_minus] at this
    cases this
  | r + 1, 0, c, h, k => by
    obtain rfl : c = -1 := k
    have := h.1
    rw [isC_minus] at this
    cases this
  | r + 1, s + 1, _, h, k => by rw [endsIn_one h.2 k.2]
theorem ends_of_acyc {zs : List Int} (ha : acyc zs = true) {c : Int} (h : c = -1 ∨ isC zs c = true) : Ends zs c := by
  rcases h with rfl | h
  · exact Ends.stop
  · obtain ⟨k, rfl, hk⟩ := isC_nat h
    refine Classical.byContradiction fun hno => ?_
    have h1 := List.all_eq_true.1 ha (k : Int) (upTo_mem.2 (by omega))
    unfold acycAt at h1
    split at h1
    · cases h1
    · rename_i x hx
      have hmem : x ∈ followed zs (k : Int) := List.mem_of_getLast? hx
      have hch : x ∈ chain zs zs.length (k : Int) := by
        unfold followed at hmem
        split at hmem
        · cases hmem
        · simpa using addAll_mem.1 hmem
      have hq := chain_all (Q := fun y => ¬ Ends zs y) (fun y hy hn _ he => hn (Ends.step hy he)) (fun _ => hno) hch
      have hn : nextC zs x = -1 := of_decide_eq_true h1
      exact hq (Ends.step (chain_cells hch) (by rw [hn]; exact Ends.stop))
theorem addAll_new : ∀ {l o : List Int}, l.Nodup → (∀ x ∈ l, x ∉ o) → addAll o l = o ++ l
  | [], o, _, _ => by simp [addAll]
  | c :: cs, o, hn, hno => by
    have hc := hno c (by simp)
    rw [List.nodup_cons] at hn
    rw [addAll, if_neg hc, addAll_new hn.2 (fun x hx hm => by
      rcases List.mem_append.1 hm with hm | hm
      · exact hno x (by simp [hx]) hm
      · obtain rfl : x = c := by simpa using hm
        exact hn.1 hx)]
    simp
/-- The way to null: each cell once, the last one's next is null. -/
theorem chain_ends {zs : List Int} : ∀ {r n : Nat} {c : Int}, EndsIn zs (r + 1) c → r + 1 ≤ n → (chain zs n c).length = r + 1 ∧ (∃ l x, chain zs n c = l ++ [x] ∧ nextC zs x = -1) ∧ (chain zs n c).Nodup ∧ ∀ x ∈ chain zs n c, ∃ s, s ≤ r + 1 ∧ EndsIn zs s x
  | r, 0, _, _, hn => by omega
  | 0, n + 1, c, h, _ => by
    have hn : nextC zs c = -1 := h.2
    have hc : chain zs n (-1) = [] := by
      cases n with
      | zero => rfl
      | succ n => simp [chain, isC_minus]
    simp only [chain, h.1, if_true, hn, hc]
    exact ⟨rfl, ⟨[], c, rfl, hn⟩, by simp, fun x hx => have e : x = c := (by simpa using hx); ⟨1, Nat.le_refl _, e ▸ h⟩⟩
  | r + 1, n + 1, c, h, hn => by
    obtain ⟨h1, ⟨l, x, h2, h3⟩, h4, h5⟩ := chain_ends (n := n) h.2 (by omega)
    have h0 := h.1
    simp only [chain, h0, if_true]
    refine ⟨by rw [List.length_cons, h1], ⟨c :: l, x, by rw [h2]; rfl, h3⟩, ?_, fun y hy => ?_⟩
    · rw [List.nodup_cons]
      refine ⟨fun hm => ?_, h4⟩
      obtain ⟨s, hs, hE⟩ := h5 c hm
      have := endsIn_one hE h
      omega
    · rcases List.mem_cons.1 hy with rfl | hy
      · exact ⟨_, Nat.le_refl _, h⟩
      · obtain ⟨s, hs, hE⟩ := h5 y hy
        exact ⟨s, by omega, hE⟩
theorem acyc_of_ends {zs : List Int} (hg : goodB zs zs = true) (h : ∀ c, isC zs c = true → Ends zs c) : acyc zs = true := by
  rw [acyc, List.all_eq_true]
  intro k hk
  have hc : isC zs k = true := isC_iff.2 (upTo_mem.1 hk)
  obtain ⟨r, hr⟩ := h k hc
  cases r with
  | zero =>
    obtain rfl : k = -1 := hr
    rw [isC_minus] at hc
    cases hc
  | succ r =>
    obtain ⟨hl, _, hnd, _⟩ := chain_ends (n := r + 1) hr (Nat.le_refl _)
    have hle := nodup_cells hnd fun x hx => chain_cells hx
    obtain ⟨_, ⟨l, x, h2, h3⟩, hnd2, _⟩ := chain_ends (n := zs.length) hr (by omega)
    have hf : followed zs k = l ++ [x] := by
      rw [followed_good hg (.inr hc), addAll_new hnd2 (by simp), h2]
      rfl
    unfold acycAt
    rw [hf, List.getLast?_append]
    simp [h3]

theorem isC_len {zs ys : List Int} (h : zs.length = ys.length) (c : Int) : isC zs c = isC ys c := by simp [isC, h]
theorem set_next {zs : List Int} {k : Nat} (_hk : k < zs.length) (y : Int) {c : Int} (hc : isC zs c = true) : nextC (zs.set k y) c = if c = (k : Int) then y else nextC zs c := by
  obtain ⟨j, rfl, hj⟩ := isC_nat hc
  rw [nextC_at (by rw [List.length_set]; exact hj), nextC_at hj, List.getElem_set]
  by_cases h : k = j
  · subst h
    rw [if_pos rfl, if_pos rfl]
  · rw [if_neg h, if_neg (by omega)]
/-- A cell's next is cut off. -/
theorem ends_cut {zs : List Int} {k : Nat} (hk : k < zs.length) : ∀ {r : Nat} {c : Int}, EndsIn zs r c → Ends (zs.set k (-1)) c
  | 0, c, h => by
    obtain rfl : c = -1 := h
    exact Ends.stop
  | r + 1, c, h => by
    refine Ends.step (by rw [isC_len (List.length_set)]; exact h.1) ?_
    rw [set_next hk _ h.1]
    split
    · exact Ends.stop
    · exact ends_cut hk h.2
/-- A cell k is linked to b, from which k is not met. -/
theorem ends_far {zs : List Int} {k : Nat} {b : Int} (hk : k < zs.length) : ∀ {r n : Nat} {c : Int}, EndsIn zs r c → r ≤ n → (k : Int) ∉ chain zs n c → Ends (zs.set k b) c
  | 0, _, c, h, _, _ => by
    obtain rfl : c = -1 := h
    exact Ends.stop
  | r + 1, 0, _, _, hn, _ => by omega
  | r + 1, n + 1, c, h, hn, hno => by
    have h0 := h.1
    simp only [chain, h0, if_true, List.mem_cons, not_or] at hno
    refine Ends.step (by rw [isC_len (List.length_set)]; exact h.1) ?_
    rw [set_next hk _ h.1, if_neg (Ne.symm hno.1)]
    exact ends_far hk h.2 (by omega) hno.2
theorem ends_link {zs : List Int} {k : Nat} {b : Int} (hk : k < zs.length) (hb : Ends (zs.set k b) b) : ∀ {r : Nat} {c : Int}, EndsIn zs r c → Ends (zs.set k b) c
  | 0, c, h => by
    obtain rfl : c = -1 := h
    exact Ends.stop
  | r + 1, c, h => by
    refine Ends.step (by rw [isC_len (List.length_set)]; exact h.1) ?_
    rw [set_next hk _ h.1]
    split
    · exact hb
    · exact ends_link hk hb h.2
/-- A cell more. -/
theorem ends_new {zs : List Int} : ∀ {r : Nat} {c : Int}, EndsIn zs r c → Ends (zs ++ [-1]) c
  | 0, c, h => by
    obtain rfl : c = -1 := h
    exact Ends.stop
  | r + 1, c, h => by
    have h0 := isC_iff.1 h.1
    obtain ⟨j, rfl, hj⟩ := isC_nat h.1
    refine Ends.step (isC_iff.2 ⟨h0.1, by simp; omega⟩) ?_
    rw [nextC_at (by simp; omega), List.getElem_append_left hj, ← nextC_at hj]
    exact ends_new h.2
/-- The canonical heap. -/
theorem ends_canon {vs zs : List Int} : ∀ {r : Nat} {c : Int}, EndsIn zs r c → c = -1 ∨ c ∈ order vs zs → Ends (canonN vs zs) (num (order vs zs) c)
  | 0, c, h, _ => by
    obtain rfl : c = -1 := h
    rw [num_minus (order_end vs zs).toOrdOk]
    exact Ends.stop
  | r + 1, c, h, hm => by
    rcases hm with rfl | hm
    · rw [num_minus (order_end vs zs).toOrdOk]
      exact Ends.stop
    · obtain ⟨h1, h2⟩ := canon_next hm
      refine Ends.step h1 ?_
      rw [h2]
      by_cases hc : isC zs (nextC zs c) = true
      · exact ends_canon h.2 (.inr ((order_end vs zs).closed c hm hc))
      · refine ends_canon h.2 (.inl ?_)
        have h3 := h.2
        cases r with
        | zero => exact h3
        | succ r => exact absurd h3.1 hc
/-- A cell without pointers to it is freed. -/
theorem low_cell {zs : List Int} {k : Nat} (hk : k < zs.length) {c : Int} (hc : isC zs c = true) (hne : c ≠ (k : Int)) : isC ((zs.eraseIdx k).map (lowC k)) (lowC k c) = true ∧ nextC ((zs.eraseIdx k).map (lowC k)) (lowC k c) = lowC k (nextC zs c) := by
  have hl : ((zs.eraseIdx k).map (lowC k)).length = zs.length - 1 := by rw [List.length_map, List.length_eraseIdx, if_pos hk]
  obtain ⟨j, rfl, hj⟩ := isC_nat hc
  by_cases h : k < j
  · have e : lowC k (j : Int) = ((j - 1 : Nat) : Int) := by
      unfold lowC
      rw [if_pos (by omega)]
      omega
    have hj' : j - 1 < ((zs.eraseIdx k).map (lowC k)).length := by omega
    rw [e]
    refine ⟨isC_of hj', ?_⟩
    rw [nextC_at hj', nextC_at hj, List.getElem_map, List.getElem_eraseIdx]
    rw [dif_neg (by omega)]
    congr 2
    omega
  · have e : lowC k (j : Int) = (j : Int) := by
      unfold lowC
      rw [if_neg (by omega)]
    have hj' : j < ((zs.eraseIdx k).map (lowC k)).length := by omega
    rw [e]
    refine ⟨isC_of hj', ?_⟩
    rw [nextC_at hj', nextC_at hj, List.getElem_map, List.getElem_eraseIdx, dif_pos (by omega)]
theorem ends_free {zs : List Int} {k : Nat} (hk : k < zs.length) (hno : (k : Int) ∉ zs) : ∀ {r : Nat} {c : Int}, EndsIn zs r c → c ≠ (k : Int) → Ends ((zs.eraseIdx k).map (lowC k)) (lowC k c)
  | 0, c, h, _ => by
    obtain rfl : c = -1 := h
    have : lowC k (-1) = -1 := if_neg (by omega)
    rw [this]
    exact Ends.stop
  | r + 1, c, h, hne => by
    obtain ⟨h1, h2⟩ := low_cell hk h.1 hne
    refine Ends.step h1 ?_
    rw [h2]
    refine ends_free hk hno h.2 fun e => hno ?_
    obtain ⟨j, rfl, hj⟩ := isC_nat h.1
    rw [nextC_at hj] at e
    rw [← e]
    exact List.getElem_mem hj

def Good (zs l : List Int) : Prop := ∀ x ∈ l, x = -1 ∨ isC zs x = true
theorem good_iff {zs l : List Int} : goodB zs l = true ↔ Good zs l := by
  simp [goodB, Good, List.all_eq_true]
theorem Good.set_ {zs l : List Int} (h : Good zs l) {k : Nat} {y : Int} (hy : y = -1 ∨ isC zs y = true) : Good zs (l.set k y) := fun x hx => by
  rcases List.mem_or_eq_of_mem_set hx with hx | rfl
  · exact h x hx
  · exact hy
theorem Good.len_ {zs ys l : List Int} (h : Good zs l) (e : zs.length = ys.length) : Good ys l := fun x hx => (h x hx).imp id fun h1 => by rw [← isC_len e]; exact h1
theorem Good.at_ {zs l : List Int} (h : Good zs l) {k : Nat} (hk : k < l.length) : l.getD k (-1) = -1 ∨ isC zs (l.getD k (-1)) = true := by
  have e : l.getD k (-1) = l[k] := by simp [hk]
  rw [e]
  exact h _ (List.getElem_mem hk)
/-- A heap that a statement makes, ahead of the leak. -/
structure Sound (n : Nat) (us ys : List Int) : Prop where
  len : us.length = n
  six : ys.length ≤ 6
  gv : Good ys us
  gz : Good ys ys
  ends : ∀ c, isC ys c = true → Ends ys c
theorem Sound.all {n : Nat} {us ys : List Int} (h : Sound n us ys) {c : Int} (hc : c = -1 ∨ isC ys c = true) : Ends ys c := by
  rcases hc with rfl | hc
  · exact Ends.stop
  · exact h.ends c hc
theorem Sound.setV {n : Nat} {us ys : List Int} (h : Sound n us ys) (k : Nat) {y : Int} (hy : y = -1 ∨ isC ys y = true) : Sound n (us.set k y) ys := ⟨by rw [List.length_set]; exact h.len, h.six, h.gv.set_ hy, h.gz, h.ends⟩
theorem Sound.setZ {n : Nat} {us ys : List Int} (h : Sound n us ys) {k : Nat} {y : Int} (hy : y = -1 ∨ isC ys y = true) (he : ∀ c, isC ys c = true → Ends (ys.set k y) c) : Sound n us (ys.set k y) :=
  ⟨h.len, by rw [List.length_set]; exact h.six, h.gv.len_ List.length_set.symm, (h.gz.set_ hy).len_ List.length_set.symm, fun c hc => he c (by rw [isC_len List.length_set.symm]; exact hc)⟩
theorem sound_of {n : Int} {vs zs : List Int} (h : heapB n vs zs = true) : Sound vs.length vs zs := by
  obtain ⟨_, h6, hgv, hgz, ha⟩ := heapB_parts h
  exact ⟨rfl, h6, good_iff.1 hgv, good_iff.1 hgz, fun c hc => ends_of_acyc ha (.inr hc)⟩
theorem sound_new {n : Nat} {us ys : List Int} (h : Sound n us ys) (k : Nat) (h6 : ys.length ≠ 6) : Sound n (us.set k (ys.length : Int)) (ys ++ [-1]) := by
  have hup : ∀ x, isC ys x = true → isC (ys ++ [-1]) x = true := fun x hx => by
    have := isC_iff.1 hx
    exact isC_iff.2 ⟨this.1, by simp; omega⟩
  have h6' := h.six
  refine ⟨by rw [List.length_set]; exact h.len, by simp; omega, ?_, ?_, fun c hc => ?_⟩
  · exact Good.set_ (fun x hx => (h.gv x hx).imp id (hup x)) (.inr (isC_iff.2 ⟨by omega, by simp; omega⟩))
  · intro x hx
    rcases List.mem_append.1 hx with hx | hx
    · exact (h.gz x hx).imp id (hup x)
    · exact .inl (by simpa using hx)
  · by_cases hold : isC ys c = true
    · obtain ⟨r, hr⟩ := h.ends c hold
      exact ends_new hr
    · obtain ⟨j, rfl, hj⟩ := isC_nat hc
      have hj' : j = ys.length := by
        have : ¬ j < ys.length := fun hl => hold (isC_of hl)
        simp at hj
        omega
      refine Ends.step hc ?_
      rw [nextC_at hj]
      have e : (ys ++ [-1])[j]'hj = -1 := by
        subst hj'
        simp
      rw [e]
      exact Ends.stop
theorem sound_free {n : Nat} {us ys : List Int} (h : Sound n us ys) {c : Nat} (hc : c < ys.length) {ws : List Int} (hws : Good ys ws) (hl : ws.length = n) (h1 : (c : Int) ∉ ws) (h2 : (c : Int) ∉ ys) : Sound n (ws.map (lowC c)) ((ys.eraseIdx c).map (lowC c)) := by
  have hm : lowC c (-1) = -1 := if_neg (by omega)
  have key : ∀ y : Int, (y = -1 ∨ isC ys y = true) → y ≠ (c : Int) → lowC c y = -1 ∨ isC ((ys.eraseIdx c).map (lowC c)) (lowC c y) = true := fun y hy hne => by
    rcases hy with rfl | hy
    · exact .inl hm
    · exact .inr (low_cell hc hy hne).1
  have hle : ((ys.eraseIdx c).map (lowC c)).length = ys.length - 1 := by rw [List.length_map, List.length_eraseIdx, if_pos hc]
  have h6 := h.six
  refine ⟨by rw [List.length_map]; exact hl, by omega, fun x hx => ?_, fun x hx => ?_, fun x hx => ?_⟩
  · obtain ⟨y, hy, rfl⟩ := List.mem_map.1 hx
    exact key y (hws y hy) (fun e => h1 (e ▸ hy))
  · obtain ⟨y, hy, rfl⟩ := List.mem_map.1 hx
    have hy := List.mem_of_mem_eraseIdx hy
    exact key y (h.gz y hy) (fun e => h2 (e ▸ hy))
  · obtain ⟨j, rfl, hj⟩ := isC_nat hx
    rw [hle] at hj
    by_cases hjc : j < c
    · have e : lowC c (j : Int) = (j : Int) := if_neg (by omega)
      obtain ⟨r, hr⟩ := h.ends (j : Int) (isC_of (by omega))
      rw [← e]
      exact ends_free hc h2 hr (by omega)
    · have e : lowC c ((j + 1 : Nat) : Int) = (j : Int) := by
        unfold lowC
        rw [if_pos (by omega)]
        omega
      obtain ⟨r, hr⟩ := h.ends ((j + 1 : Nat) : Int) (isC_of (by omega))
      rw [← e]
      exact ends_free hc h2 hr (by omega)
theorem act_inj {vs zs us ys : List Int} (h : ((0 : Int), vs, zs) = (0, us, ys)) : vs = us ∧ zs = ys := by
  injection h with _ h
  injection h with h1 h2
  exact ⟨h1, h2⟩
theorem bad_no {k : Int} {us ys : List Int} (hk : k ≠ 0) (h : badC k = (0, us, ys)) : False := hk (congrArg Prod.fst h)
theorem ite_parts {α : Type} {c : Prop} [Decidable c] {x y r : α} (h : (if c then x else y) = r) : (c ∧ x = r) ∨ (¬ c ∧ y = r) := by
  by_cases hc : c
  · exact .inl ⟨hc, by rwa [if_pos hc] at h⟩
  · exact .inr ⟨hc, by rwa [if_neg hc] at h⟩
set_option maxHeartbeats 800000 in
theorem do_sound {k : Int} {pa pb : Nat} {vs zs us ys : List Int} (h : Sound vs.length vs zs) (hpa : pa < vs.length) (hpb : pb < vs.length) (hd : doS k pa pb vs zs = (0, us, ys)) : Sound vs.length us ys := by
  have ga := h.gv.at_ hpa
  have gb := h.gv.at_ hpb
  generalize hx : vs.getD pa (-1) = x at *
  generalize hy : vs.getD pb (-1) = y at *
  unfold doS linkS freeS at hd
  rw [hx, hy] at hd
  rcases ite_parts hd with ⟨_, hd⟩ | ⟨_, hd⟩
  · obtain ⟨rfl, rfl⟩ := act_inj hd
    exact h
  rcases ite_parts hd with ⟨_, hd⟩ | ⟨_, hd⟩
  · obtain ⟨rfl, rfl⟩ := act_inj hd
    exact h.setV pa (.inl rfl)
  rcases ite_parts hd with ⟨_, hd⟩ | ⟨_, hd⟩
  · rcases ite_parts hd with ⟨_, hd⟩ | ⟨h6, hd⟩
    · exact (bad_no (by decide) hd).elim
    · obtain ⟨rfl, rfl⟩ := act_inj hd
      exact sound_new h pa h6
  rcases ite_parts hd with ⟨_, hd⟩ | ⟨_, hd⟩
  · obtain ⟨rfl, rfl⟩ := act_inj hd
    exact h.setV pa gb
  rcases ite_parts hd with ⟨_, hd⟩ | ⟨_, hd⟩
  · rcases ite_parts hd with ⟨_, hd⟩ | ⟨hne, hd⟩
    · exact (bad_no (by decide) hd).elim
    · obtain ⟨rfl, rfl⟩ := act_inj hd
      exact h.setV pa (nextC_good (good_iff.2 h.gz) (gb.resolve_left hne))
  rcases ite_parts hd with ⟨_, hd⟩ | ⟨_, hd⟩
  · rcases ite_parts hd with ⟨_, hd⟩ | ⟨hne, hd⟩
    · exact (bad_no (by decide) hd).elim
    · obtain ⟨rfl, rfl⟩ := act_inj hd
      obtain ⟨c, rfl, hc⟩ := isC_nat (ga.resolve_left hne)
      rw [Int.toNat_natCast]
      exact h.setZ (.inl rfl) fun d hd => (h.ends d hd).elim fun r hr => ends_cut hc hr
  rcases ite_parts hd with ⟨_, hd⟩ | ⟨_, hd⟩
  · rcases ite_parts hd with ⟨_, hd⟩ | ⟨hne, hd⟩
    · exact (bad_no (by decide) hd).elim
    · rcases ite_parts hd with ⟨_, hd⟩ | ⟨hno, hd⟩
      · exact (bad_no (by decide) hd).elim
      · obtain ⟨rfl, rfl⟩ := act_inj hd
        obtain ⟨c, rfl, hc⟩ := isC_nat (ga.resolve_left hne)
        rw [Int.toNat_natCast]
        have hb : Ends (zs.set c y) y := by
          obtain ⟨r, hr⟩ := h.all gb
          cases r with
          | zero =>
            obtain rfl : y = -1 := hr
            exact Ends.stop
          | succ r =>
            obtain ⟨hl, _, hnd, _⟩ := chain_ends (n := r + 1) hr (Nat.le_refl _)
            have hle := nodup_cells hnd fun x hx => chain_cells hx
            refine ends_far hc hr (n := zs.length) (by omega) fun hm => hno ?_
            rw [followed_good (good_iff.2 h.gz) gb]
            exact addAll_mem.2 (.inr hm)
        exact h.setZ gb fun d hd => (h.ends d hd).elim fun r hr => ends_link hc hb hr
  rcases ite_parts hd with ⟨_, hd⟩ | ⟨_, hd⟩
  · rcases ite_parts hd with ⟨_, hd⟩ | ⟨hne, hd⟩
    · exact (bad_no (by decide) hd).elim
    · rcases ite_parts hd with ⟨_, hd⟩ | ⟨hno, hd⟩
      · exact (bad_no (by decide) hd).elim
      · obtain ⟨rfl, rfl⟩ := act_inj hd
        obtain ⟨c, rfl, hc⟩ := isC_nat (ga.resolve_left hne)
        rw [Int.toNat_natCast]
        exact sound_free h hc (h.gv.set_ (.inl rfl)) List.length_set (fun e => hno (.inl e)) (fun e => hno (.inr e))
  have two : ∀ {c : Prop} [Decidable c] {u v : Act3}, (if c then u else v) = (0, us, ys) → (u = (0, us, ys) → Sound vs.length us ys) → (v = (0, us, ys) → Sound vs.length us ys) → Sound vs.length us ys := fun e f g => by
    rcases ite_parts e with ⟨_, e⟩ | ⟨_, e⟩
    · exact f e
    · exact g e
  have ok : ((0 : Int), vs, zs) = (0, us, ys) → Sound vs.length us ys := fun e => by
    obtain ⟨rfl, rfl⟩ := act_inj e
    exact h
  have no : badC 1 = (0, us, ys) → Sound vs.length us ys := fun e => (bad_no (by decide) e).elim
  exact two hd (fun e => two e ok no) fun e => two e (fun e => two e no ok) fun e => two e (fun e => two e ok no) fun e => two e no ok
/-- The answer is a valid heap. -/
theorem canon_heap {n : Nat} {us ys : List Int} (h : Sound n us ys) (hn : 1 ≤ n ∧ n ≤ 4) : heapB (n : Int) (canonVs us ys) (canonNs us ys) = true := by
  have hg : goodH us ys = true := by rw [goodH, good_iff.2 h.gv, good_iff.2 h.gz]; rfl
  have hO := order_end us ys
  have hcg := canon_good us ys
  have hl : (canonN us ys).length = (order us ys).length := by simp [canonN]
  have hle := hO.len
  have h6 := h.six
  have hlen := h.len
  rw [canonVs, canonNs, if_pos hg, if_pos hg]
  simp only [heapB, Bool.and_eq_true, decide_eq_true_eq]
  refine ⟨⟨⟨⟨by omega, by omega, by simp [canonV, hlen], by omega⟩, hcg⟩, ?_⟩, order_canon us ys⟩
  refine acyc_of_ends (goodH_parts hcg).2 fun c hc => ?_
  obtain ⟨j, rfl, hj⟩ := isC_nat hc
  rw [hl] at hj
  have hm : (order us ys)[j] ∈ order us ys := List.getElem_mem hj
  obtain ⟨r, hr⟩ := h.ends _ (hO.cells _ hm)
  have := ends_canon (vs := us) hr (.inr hm)
  rwa [num_at hO.nodup hj] at this
end Go.Proofs.YtpmmjaceehlpiaaGreatDoor
/-
  Runs and the states that can be reached, in plain words: following edges, the list of states, and that a run ends in one of the list.
-/
namespace Go.Proofs.YtpmmjaceehlpiaaGreatDoor
open Go Go.RowKit

abbrev Sb := Int × (List Int × List Int)
def putS (l : List Sb) (x : Sb) : List Sb := if x ∈ l then l else l ++ [x]
/-- An edge that can be followed at a point. -/
def hasEdge (es : List Ed) (p e : Int) : Bool := (decide (0 ≤ e) && decide (e ≤ (es.length : Int) - 1)) && decide ((es.getD e.toNat ⟨0, 0, 0, ⟨#[]⟩, ⟨#[]⟩⟩).f = p)
def edgeAt (es : List Ed) (e : Int) : Ed := es.getD e.toNat ⟨0, 0, 0, ⟨#[]⟩, ⟨#[]⟩⟩
/-- Following edges from a state on: the state at the end, the code, the number of edges. -/
def followS (ss : List ByteArray) (es : List Ed) : Sb → Int → List Int → Sb × Int × Int
  | st, k, [] => (st, 0, k)
  | st, k, e :: r => if hasEdge es st.1 e = true then
      (if (execS ss (edgeAt es e).k (edgeAt es e).a (edgeAt es e).b st.2.1 st.2.2).1 = 0 then followS ss es ((edgeAt es e).t, (execS ss (edgeAt es e).k (edgeAt es e).a (edgeAt es e).b st.2.1 st.2.2).2) (k + 1) r
       else (st, (execS ss (edgeAt es e).k (edgeAt es e).a (edgeAt es e).b st.2.1 st.2.2).1, k))
    else (st, 7, k)
def follow0 (ss : List ByteArray) (n : Int) (es : List Ed) (vs zs edges : List Int) : Sb × Int × Int :=
  if progB ss n es = true ∧ heapB (ss.length : Int) vs zs = true then followS ss es (0, (vs, zs)) 0 edges else ((0, ([], [])), 7, 0)

/-- Where an edge leads from a state. -/
def nextS (ss : List ByteArray) (es : List Ed) (st : Sb) (e : Int) : Int × Sb :=
  ((execS ss (edgeAt es e).k (edgeAt es e).a (edgeAt es e).b st.2.1 st.2.2).1, ((edgeAt es e).t, (execS ss (edgeAt es e).k (edgeAt es e).a (edgeAt es e).b st.2.1 st.2.2).2))
def stepS (ss : List ByteArray) (es : List Ed) (st : Sb) (l : List Sb) (e : Int) : List Sb := if (nextS ss es st e).1 = 0 then putS l (nextS ss es st e).2 else l
def edgesS (es : List Ed) (st : Sb) : List Int := posFrom st.1 0 (fromsOf es)
def addAfterS (ss : List ByteArray) (es : List Ed) (st : Sb) (l : List Sb) : List Sb := (edgesS es st).foldl (stepS ss es st) l
def noSb : Sb := (0, ([], []))
def roundS (ss : List ByteArray) (es : List Ed) (l : List Sb) (k : Nat) : List Sb := addAfterS ss es (l.getD k noSb) l
/-- The list of states, gone through from the k-th on. -/
def walkS (ss : List ByteArray) (es : List Ed) : Nat → Nat → List Sb → List Sb
  | 0, _, l => l
  | f + 1, k, l => if k < l.length ∧ l.length ≤ 200 then walkS ss es f (k + 1) (roundS ss es l k) else l
def startS (hs : List (List Int × List Int)) : List Sb := hs.foldl (fun l h => putS l (0, h)) []
def statesS (ss : List ByteArray) (n : Int) (es : List Ed) (hs : List (List Int × List Int)) : List Sb × Bool :=
  if progB ss n es = true ∧ hs.all (fun h => heapB (ss.length : Int) h.1 h.2) = true then
    (if (walkS ss es 201 0 (startS hs)).length ≤ 200 then (walkS ss es 201 0 (startS hs), true) else ([], false))
  else ([], false)

section
variable {ss : List ByteArray} {es : List Ed}
theorem putS_has (l : List Sb) (x : Sb) : x ∈ putS l x := by unfold putS; split <;> simp_all
theorem putS_keeps {l : List Sb} {x y : Sb} (h : y ∈ l) : y ∈ putS l x := by unfold putS; split <;> simp_all
theorem putS_pre (l : List Sb) (x : Sb) : ∃ r, putS l x = l ++ r := by
  unfold putS
  split
  · exact ⟨[], by simp⟩
  · exact ⟨_, rfl⟩
theorem putS_len (l : List Sb) (x : Sb) : l.length ≤ (putS l x).length ∧ (putS l x).length ≤ l.length + 1 := by unfold putS; split <;> simp
theorem putS_mem {l : List Sb} {x y : Sb} (h : y ∈ putS l x) : y ∈ l ∨ y = x := by
  unfold putS at h
  split at h
  · exact .inl h
  · simpa using h
theorem stepS_pre (st : Sb) (l : List Sb) (e : Int) : ∃ r, stepS ss es st l e = l ++ r := by
  unfold stepS
  split
  · exact putS_pre _ _
  · exact ⟨[], by simp⟩
theorem fold_pre (st : Sb) : ∀ (ls : List Int) (l : List Sb), ∃ r, ls.foldl (stepS ss es st) l = l ++ r
  | [], l => ⟨[], by simp⟩
  | e :: ls, l => by
    obtain ⟨r1, h1⟩ := stepS_pre (ss := ss) (es := es) st l e
    obtain ⟨r2, h2⟩ := fold_pre st ls (stepS ss es st l e)
    exact ⟨r1 ++ r2, by rw [List.foldl_cons, h2, h1, List.append_assoc]⟩
theorem fold_has (st : Sb) : ∀ (ls : List Int) (l : List Sb) (e : Int), e ∈ ls → (nextS ss es st e).1 = 0 → (nextS ss es st e).2 ∈ ls.foldl (stepS ss es st) l
  | x :: ls, l, e, he, h0 => by
    rw [List.foldl_cons]
    rcases List.mem_cons.1 he with rfl | he
    · obtain ⟨r, hr⟩ := fold_pre (ss := ss) (es := es) st ls (stepS ss es st l e)
      rw [hr]
      refine List.mem_append_left _ ?_
      rw [stepS, if_pos h0]
      exact putS_has _ _
    · exact fold_has st ls _ e he h0
theorem roundS_pre (l : List Sb) (k : Nat) : ∃ r, roundS ss es l k = l ++ r := fold_pre _ _ _
theorem getD_pre {l r : List Sb} {k : Nat} (h : k < l.length) : (l ++ r).getD k noSb = l.getD k noSb := by simp [List.getElem?_append_left h]
/-- The states before the k-th lead into the list. -/
def Shut (ss : List ByteArray) (es : List Ed) (l : List Sb) (k : Nat) : Prop := ∀ i, i < k → i < l.length → ∀ e ∈ edgesS es (l.getD i noSb), (nextS ss es (l.getD i noSb) e).1 = 0 → (nextS ss es (l.getD i noSb) e).2 ∈ l
theorem Shut.round {l : List Sb} {k : Nat} (h : Shut ss es l k) (hk : k < l.length) : Shut ss es (roundS ss es l k) (k + 1) := by
  obtain ⟨r, hr⟩ := roundS_pre (ss := ss) (es := es) l k
  intro i hi hil e he h0
  have hil' : i < l.length := by omega
  rw [hr, getD_pre hil'] at he h0 ⊢
  rcases Nat.lt_or_ge i k with hlt | hge
  · exact List.mem_append_left _ (h i hlt hil' e he h0)
  · obtain rfl : i = k := by omega
    rw [← hr]
    exact fold_has _ _ _ e he h0
theorem walk_shut : ∀ (f k : Nat) (l : List Sb), Shut ss es l k → 201 ≤ f + k → (walkS ss es f k l).length ≤ 200 → Shut ss es (walkS ss es f k l) (walkS ss es f k l).length
  | 0, k, l, h, hf, hl => fun i _ hil => h i (by simp only [walkS] at hil hl; omega) hil
  | f + 1, k, l, h, hf, hl => by
    rw [walkS] at hl ⊢
    by_cases hc : k < l.length ∧ l.length ≤ 200
    · rw [if_pos hc] at hl ⊢
      exact walk_shut f (k + 1) _ (h.round hc.1) (by omega) hl
    · rw [if_neg hc] at hl ⊢
      exact fun i _ hil => h i (by omega) hil
theorem walk_pre : ∀ (f k : Nat) (l : List Sb), ∃ r, walkS ss es f k l = l ++ r
  | 0, k, l => ⟨[], by simp [walkS]⟩
  | f + 1, k, l => by
    rw [walkS]
    split
    · obtain ⟨r1, h1⟩ := roundS_pre (ss := ss) (es := es) l k
      obtain ⟨r2, h2⟩ := walk_pre f (k + 1) (roundS ss es l k)
      exact ⟨r1 ++ r2, by rw [h2, h1, List.append_assoc]⟩
    · exact ⟨[], by simp⟩
theorem mem_edges {st : Sb} {e : Int} (h : hasEdge es st.1 e = true) : e ∈ edgesS es st := by
  simp only [hasEdge, Bool.and_eq_true, decide_eq_true_eq] at h
  obtain ⟨⟨h1, h2⟩, h3⟩ := h
  have hl : e.toNat < (fromsOf es).length := by rw [fromsOf_length]; omega
  have hl' : e.toNat < es.length := by omega
  have := posFrom_has (n := st.1) (fromsOf es) 0 e.toNat hl (by
    rw [fromsOf_at es _ hl' hl]
    simpa [hl'] using h3)
  rw [Nat.zero_add] at this
  rw [show e = ((e.toNat : Nat) : Int) by omega]
  exact this
where posFrom_has {n : Int} : ∀ (zs : List Int) (k j : Nat) (h : j < zs.length), zs[j] = n → (((k + j : Nat)) : Int) ∈ posFrom n k zs
  | z :: zs, k, 0, _, e => by
    simp only [List.getElem_cons_zero] at e
    rw [posFrom, if_pos e]
    simp
  | z :: zs, k, j + 1, h, e => by
    have h1 := posFrom_has zs (k + 1) j (by simpa using h) (by simpa using e)
    rw [show k + 1 + j = k + (j + 1) by omega] at h1
    rw [posFrom]
    split
    · exact List.mem_cons_of_mem _ h1
    · exact h1
theorem edges_has {st : Sb} {e : Int} (h : e ∈ edgesS es st) : hasEdge es st.1 e = true := by
  obtain ⟨j, he, hj, hn⟩ := posFrom_mem st.1 (fromsOf es) 0 e h
  rw [Nat.zero_add] at he
  subst he
  rw [fromsOf_length] at hj
  rw [fromsOf_at es j hj] at hn
  simp only [hasEdge, Bool.and_eq_true, decide_eq_true_eq]
  refine ⟨⟨by omega, by omega⟩, ?_⟩
  simp [hj, hn]
/-- A list that every edge keeps has the ends of all runs that begin in it. -/
theorem follow_in {l : List Sb} (h : Shut ss es l l.length) : ∀ (ls : List Int) (st : Sb) (k : Int), st ∈ l → (followS ss es st k ls).1 ∈ l
  | [], st, k, hs => hs
  | e :: ls, st, k, hs => by
    rw [followS]
    split
    · next he =>
      split
      · next h0 =>
        refine follow_in h ls _ (k + 1) ?_
        obtain ⟨i, hi, rfl⟩ := List.getElem_of_mem hs
        have hg : l.getD i noSb = l[i] := by simp [hi]
        have h1 := h i hi hi e
        rw [hg] at h1
        exact h1 (mem_edges he) h0
      · exact hs
    · exact hs
theorem startS_one (h : List Int × List Int) : startS [h] = [(0, h)] := by simp [startS, putS]
/-- A run ends in one of the states that can be reached. -/
theorem run_reached {n : Int} {vs zs edges : List Int} (hp : progB ss n es = true) (hh : heapB (ss.length : Int) vs zs = true) (h : (statesS ss n es [(vs, zs)]).2 = true) : (follow0 ss n es vs zs edges).1 ∈ (statesS ss n es [(vs, zs)]).1 := by
  have ha : progB ss n es = true ∧ ([(vs, zs)] : List (List Int × List Int)).all (fun h => heapB (ss.length : Int) h.1 h.2) = true := ⟨hp, by simp [hh]⟩
  rw [follow0, if_pos ⟨hp, hh⟩]
  rw [statesS, if_pos ha] at h ⊢
  by_cases hl : (walkS ss es 201 0 (startS [(vs, zs)])).length ≤ 200
  · rw [if_pos hl] at h ⊢
    refine follow_in (walk_shut 201 0 _ (fun i hi => by omega) (by omega) hl) _ _ _ ?_
    obtain ⟨r, hr⟩ := walk_pre (ss := ss) (es := es) 201 0 (startS [(vs, zs)])
    rw [hr, startS_one]
    simp
  · rw [if_neg hl] at h
    cases h

/-- What is known of every state of the list: its heap is one. -/
def Heapy (n : Int) (l : List Sb) : Prop := ∀ x ∈ l, heapB n x.2.1 x.2.2 = true
end
end Go.Proofs.YtpmmjaceehlpiaaGreatDoor
/-
  States: a point and a heap; rows of states. The law's copy, size guard, comparison of a state; its comparison of two rows of states.
-/
namespace Go.Proofs.YtpmmjaceehlpiaaGreatDoor
open Go Go.RowKit

structure Sp where
  p : Int
  h : Hp
def Sp.body (x : Sp) : Int × (List Int × List Int) := (x.p, x.h.body)
abbrev spC (p : Int) (a : Option Addr) (n ca : Nat) (b : Option Addr) (m cb : Nat) : Value := .agg #[.int .i64 p, .slice a n ca, .slice b m cb]
def spCells (x : Sp) : List Value := [.int .i64 x.p, .slice x.h.a x.h.vs.length x.h.ca, .slice x.h.b x.h.zs.length x.h.cb]
theorem spCells_length (x : Sp) : (spCells x).length = 3 := rfl
abbrev spVals (ss : List Sp) : List Value := fl spCells ss
/-- A row of states that may be read. -/
structure StatesAt (W : World) (a : Option Addr) (ss : List Sp) : Prop where
  row : Row W W.heap.size a (spVals ss)
  each : ∀ x ∈ ss, x.h.At W
theorem StatesAt.below {W W' : World} {a : Option Addr} {ss : List Sp} (h : StatesAt W a ss) (hb : Below W.heap.size W W') : StatesAt W' a ss :=
  ⟨(h.row.below hb).grow hb.size, fun x hx => (h.each x hx).below hb⟩
theorem StatesAt.item {W : World} {a : Option Addr} {ss : List Sp} (h : StatesAt W a ss) (k : Nat) (hk : k < ss.length) :
    ∃ b o, a = some ⟨b, o, none⟩ ∧ b < W.heap.size ∧ W.cell? ⟨b, o + k * 3, none⟩ = some (.int .i64 ss[k].p) ∧ W.cell? ⟨b, o + k * 3 + 1, none⟩ = some (.slice ss[k].h.a ss[k].h.vs.length ss[k].h.ca) ∧
      W.cell? ⟨b, o + k * 3 + 2, none⟩ = some (.slice ss[k].h.b ss[k].h.zs.length ss[k].h.cb) ∧ ss[k].h.At W := by
  obtain ⟨b, o, rfl, hb, hc⟩ := Row.item spCells_length (by omega) h.row k hk
  exact ⟨b, o, rfl, hb, hc 0 _ rfl, by rw [Nat.add_assoc]; exact hc 1 _ rfl, by rw [Nat.add_assoc]; exact hc 2 _ rfl, h.each _ (List.getElem_mem hk)⟩

set_option maxHeartbeats 800000 in
theorem eqStates (p : Int) (a b c d : Option Addr) (ca cb cc cd : Nat) (vs zs : List Int) (w : World) (hn : vs.length ≤ maxLen) (hm : zs.length ≤ maxLen) (h : HeapAt w a b vs zs) (h' : HeapAt w c d vs zs) :
    Calls Tryz.prog 27 #[spC p a vs.length ca b zs.length cb, spC p c vs.length cc d zs.length cd] w (GaveX (.bool true) w) := by
  have key : ∀ W, Below w.heap.size w W → HeapAt W a b vs zs ∧ HeapAt W c d vs zs := fun W hb => ⟨h.below hb (Nat.le_refl _), h'.below hb (Nat.le_refl _)⟩
  go_enter Tryz.func27, Tryz.ntmps27
  go_wp2_with fail
  have hb0 : ∀ u v t t', Below w.heap.size w ((w.alloc (.cells u t)).alloc (.cells v t')) := fun u v t t' => ((Below.refl _ _).alloc (Nat.le_refl _) _).alloc (by simp) _
  refine (eqHeaps a b c d ca cb cc cd vs zs _ hn hm (key _ (hb0 _ _ _ _)).1 (key _ (hb0 _ _ _ _)).2).mono ?_
  rintro e w1 ⟨rfl, hb1⟩
  have hB := (hb0 _ _ _ _).trans (hb1.mono (hb0 _ _ _ _).size)
  go_wp2
  go_ret
  exact ⟨rfl, hB⟩

set_option maxHeartbeats 800000 in
theorem eqStateRows (a b : Option Addr) (ca cb : Nat) (ss ts : List Sp) (w : World) (hn : ss.length ≤ maxLen) (hl : ∀ x ∈ ss, x.h.vs.length ≤ maxLen ∧ x.h.zs.length ≤ maxLen) (hbd : ts.map Sp.body = ss.map Sp.body) (ha : StatesAt w a ss) (hb : StatesAt w b ts) :
    Calls Tryz.prog 38 #[.slice a ss.length ca, .slice b ts.length cb] w (GaveX (.bool true) w) := by
  unfold maxLen at hn
  have hkl : ts.length = ss.length := by
    have h1 := congrArg List.length hbd
    simpa using h1
  rw [hkl]
  go_enter Tryz.func38, Tryz.ntmps38
  go_wp2
  go_loopw [5] (fun i wr => ∃ k : Nat, k ≤ ss.length ∧ i = .int .i64 k ∧ Below w.heap.size w wr) (fun i _ => ss.length - (intOf i).toNat)
  case atStart => exact ⟨0, Nat.zero_le _, rfl, Below.refl _ _⟩
  case round =>
    obtain ⟨k, hk, rfl, hbw⟩ := hrel
    by_cases hlt : k < ss.length
    · have hlk : k < ts.length := by omega
      obtain ⟨ba, oa, rfl, hba, _, _, _, _⟩ := ha.item k hlt
      obtain ⟨bb, ob, rfl, hbb, _, _, _, _⟩ := hb.item k hlk
      have hx := hl ss[k] (List.getElem_mem hlt)
      have he : ts[k].body = ss[k].body := by
        have h1 : (ts.map Sp.body)[k]? = (ss.map Sp.body)[k]? := by rw [hbd]
        simpa [hlt, hlk] using h1
      have hA := fun W h => (ha.below (W' := W) h).item k hlt
      have hB := fun W h => (hb.below (W' := W) h).item k hlk
      generalize ss[k] = x at *
      generalize ts[k] = y at *
      obtain ⟨yp, ya, yca, yb, ycb, yv, yz⟩ := y
      obtain ⟨xp, xa, xca, xb, xcb, xv, xz⟩ := x
      simp only [Sp.body, Hp.body, Prod.mk.injEq] at he
      obtain ⟨rfl, rfl, rfl⟩ := he
      have hS : ∀ W, Below w.heap.size w W → (W.cell? ⟨ba, oa + k * 3, none⟩ = some (.int .i64 yp) ∧ W.cell? ⟨ba, oa + k * 3 + 1, none⟩ = some (.slice xa yv.length xca) ∧ W.cell? ⟨ba, oa + k * 3 + 2, none⟩ = some (.slice xb yz.length xcb)) ∧ (W.cell? ⟨bb, ob + k * 3, none⟩ = some (.int .i64 yp) ∧ W.cell? ⟨bb, ob + k * 3 + 1, none⟩ = some (.slice ya yv.length yca) ∧ W.cell? ⟨bb, ob + k * 3 + 2, none⟩ = some (.slice yb yz.length ycb)) := by
        intro W h
        obtain ⟨b1, o1, e1, _, p0, p1, p2, _⟩ := hA W h
        obtain ⟨b2, o2, e2, _, q0, q1, q2, _⟩ := hB W h
        injection e1 with e1
        injection e1 with e1 e1' _
        injection e2 with e2
        injection e2 with e2 e2' _
        subst e1 e1' e2 e2'
        exact ⟨⟨p0, p1, p2⟩, q0, q1, q2⟩
      have hR : ∀ W, Below w.heap.size w W → HeapAt W xa xb yv yz ∧ HeapAt W ya yb yv yz := fun W h => by
        obtain ⟨_, _, _, _, _, _, _, p⟩ := hA W h
        obtain ⟨_, _, _, _, _, _, _, q⟩ := hB W h
        exact ⟨p, q⟩
      have HS := Lib.hid hS
      have HR := Lib.hid hR
      have HA := Lib.hid ha
      have HB := Lib.hid hb
      clear hA hB hS hR ha hb hbd
      go_wp2_with fail
      go_region_held3 (fun W => (W.cell? ⟨ba, oa + k * 3, none⟩ = some (.int .i64 yp) ∧ W.cell? ⟨ba, oa + k * 3 + 1, none⟩ = some (.slice xa yv.length xca) ∧ W.cell? ⟨ba, oa + k * 3 + 2, none⟩ = some (.slice xb yz.length xcb)) ∧ (W.cell? ⟨bb, ob + k * 3, none⟩ = some (.int .i64 yp) ∧ W.cell? ⟨bb, ob + k * 3 + 1, none⟩ = some (.slice ya yv.length yca) ∧ W.cell? ⟨bb, ob + k * 3 + 2, none⟩ = some (.slice yb yz.length ycb)))
        (first | with_reducible exact HS.out _ (Below.drew hbw) | with_reducible exact HS.out _ hB1)
        (first | (go_at_call 27; (with_reducible refine (eqStates yp xa xb ya yb xca xcb yca ycb yv yz _ hx.1 hx.2 (HR.out _ (Below.drew hbw)).1 (HR.out _ (Below.drew hbw)).2).mono ?_); rintro e w1 ⟨rfl, hb1⟩; have hB1 := (Below.drew hbw).trans (hb1.mono (Below.drew hbw).size)))
      go_wp2
      go_roundw
      case rel => exact ⟨k + 1, by omega, by go_num, hB1⟩
      case measure => simp [intOf]; omega
    · go_wp2
      go_ret
      exact ⟨rfl, hbw⟩
end Go.Proofs.YtpmmjaceehlpiaaGreatDoor
/-
  Pure: what Exec answers is a valid heap; of a test and its opposite exactly one lets the heap stay, the other blocks.
-/
namespace Go.Proofs.YtpmmjaceehlpiaaGreatDoor
open Go Go.RowKit

theorem place_lt {ss : List ByteArray} (a : ByteArray) (h : 1 ≤ ss.length) : (place ss a).toNat < ss.length := by
  by_cases h0 : 0 ≤ place ss a
  · have := place_in h0
    omega
  · omega
theorem exec_heap {ss : List ByteArray} {k : Int} {a b : ByteArray} {vs zs ps qs : List Int} (h : execS ss k a b vs zs = (0, ps, qs)) : heapB (ss.length : Int) ps qs = true := by
  unfold execS at h
  rcases ite_parts h with ⟨⟨_, h2⟩, h⟩ | ⟨_, h⟩
  · rcases ite_parts h with ⟨h0, h⟩ | ⟨h0, h⟩
    · rcases ite_parts h with ⟨_, h⟩ | ⟨_, h⟩
      · exact (bad_no (by decide) h).elim
      · obtain ⟨rfl, rfl⟩ := act_inj h
        obtain ⟨hv, _⟩ := heapB_parts h2
        have hl : vs.length = ss.length := by omega
        have hs := do_sound (k := k) (pa := (place ss a).toNat) (pb := (place ss b).toNat) (us := (doS k (place ss a).toNat (place ss b).toNat vs zs).2.1) (ys := (doS k (place ss a).toNat (place ss b).toNat vs zs).2.2) (sound_of h2) (by rw [hl]; exact place_lt a (by omega)) (by rw [hl]; exact place_lt b (by omega)) (Prod.ext h0 rfl)
        rw [hl] at hs
        exact canon_heap hs (by omega)
    · exact absurd (congrArg Prod.fst h) h0
  · exact (bad_no (by decide) h).elim
theorem exec_test {ss : List ByteArray} {k : Int} {a b : ByteArray} {vs zs : List Int} (h1 : stmtB ss k a b = true) (h2 : heapB (ss.length : Int) vs zs = true) (ht : isTestS k = true) :
    execS ss k a b vs zs = if testB k (vs.getD (place ss a).toNat (-1)) (vs.getD (place ss b).toNat (-1)) = true then (0, vs, zs) else badC 1 := by
  obtain ⟨c1, c2, hl⟩ := heap_stays h2
  by_cases hb : testB k (vs.getD (place ss a).toNat (-1)) (vs.getD (place ss b).toNat (-1)) = true
  · rw [if_pos hb, exec_ok h1 h2 (do_passed ht hb) hl, c1, c2]
  · rw [if_neg hb]
    exact exec_code h1 h2 (do_blocked ht (by simpa using hb)) (by decide)
theorem test_opp {k : Int} (ht : isTestS k = true) (x y : Int) : testB (oppS k) x y = !testB k x y := by
  rcases isTestS_four ht with rfl | rfl | rfl | rfl
  all_goals simp [testB, oppS]
theorem opp_test {k : Int} (ht : isTestS k = true) : isTestS (oppS k) = true := by
  rcases isTestS_four ht with rfl | rfl | rfl | rfl
  all_goals simp [oppS, isTestS]
theorem opp_stmt {ss : List ByteArray} {k : Int} {a b : ByteArray} (ht : isTestS k = true) : stmtB ss (oppS k) a b = stmtB ss k a b := by
  have e : namesN (oppS k) = namesN k := by
    rcases isTestS_four ht with rfl | rfl | rfl | rfl
    all_goals decide
  unfold stmtB
  rw [e]
end Go.Proofs.YtpmmjaceehlpiaaGreatDoor
