/-
  Several texts of one proof in one file, in the order in which they build.
-/
import Derived.Lib.SmallJoins
import Derived.Deep.Slices
import Derived.Test.YtpmmjaceehlpiaaGreatDoorR01
import Derived.Test.YtpmmjaceehlpiaaGreatDoorR02
/-
  Edges: rows of structs of five cells (two points, a statement of a kind and two names), programs as values; an argument that is a program, opened. Nothing here knows of the program's text.
-/
namespace Go.Proofs.YtpmmjaceehlpiaaGreatDoor
open Go Go.Joins Go.ChangeShapes Go.WideShapes Go.ChangeAt Go.RowKit Go.Deep

structure Ed where
  f : Int
  t : Int
  k : Int
  a : ByteArray
  b : ByteArray
  deriving DecidableEq
abbrev edV (f t k : Int) (a b : ByteArray) : Value := .agg #[.int .i64 f, .int .i64 t, .int .i64 k, .string a, .string b]
def edCells (x : Ed) : List Value := [.int .i64 x.f, .int .i64 x.t, .int .i64 x.k, .string x.a, .string x.b]
def edVals (es : List Ed) : List Value := es.flatMap edCells
theorem edCells_length (x : Ed) : (edCells x).length = 5 := rfl
theorem edVals_cons (x : Ed) (es : List Ed) : edVals (x :: es) = edCells x ++ edVals es := rfl
theorem edVals_nil : edVals [] = [] := rfl
theorem edVals_length : ∀ es : List Ed, (edVals es).length = es.length * 5
  | [] => rfl
  | x :: es => by rw [edVals_cons, List.length_append, edVals_length es, edCells_length, List.length_cons]; omega
theorem edVals_append (a b : List Ed) : edVals (a ++ b) = edVals a ++ edVals b := by simp [edVals]
theorem edVals_snoc (l : List Ed) (x : Ed) : edVals (l ++ [x]) = edVals l ++ edCells x := by simp [edVals]
theorem edVals_at : ∀ (es : List Ed) (i : Nat) (h : i < es.length) (j : Nat), j < 5 → (edVals es)[i * 5 + j]? = (edCells es[i])[j]?
  | x :: es, 0, _, j, hj => by
    rw [edVals_cons, List.getElem?_append_left (by rw [edCells_length]; omega)]
    simp
  | x :: es, i + 1, h, j, hj => by
    have h' : i < es.length := by simpa using h
    rw [edVals_cons, List.getElem?_append_right (by rw [edCells_length]; omega), edCells_length, show (i + 1) * 5 + j - 5 = i * 5 + j by omega, edVals_at es i h' j hj]
    simp
theorem edVals_one (es : List Ed) : ∀ u ∈ edVals es, u.oneCell' = true := by
  intro u hu
  obtain ⟨x, _, h⟩ := List.mem_flatMap.1 hu
  simp [edCells] at h
  rcases h with rfl | rfl | rfl | rfl | rfl <;> rfl

/-- The five cells of an edge in a row. -/
structure EdAt (w : World) (b o : Nat) (x : Ed) : Prop where
  f : w.cell? ⟨b, o, none⟩ = some (.int .i64 x.f)
  t : w.cell? ⟨b, o + 1, none⟩ = some (.int .i64 x.t)
  k : w.cell? ⟨b, o + 2, none⟩ = some (.int .i64 x.k)
  a : w.cell? ⟨b, o + 3, none⟩ = some (.string x.a)
  b : w.cell? ⟨b, o + 4, none⟩ = some (.string x.b)
theorem Row.edge {w : World} {B : Nat} {a : Option Addr} {es : List Ed} (h : Row w B a (edVals es)) (i : Nat) (hi : i < es.length) : ∃ b o, a = some ⟨b, o, none⟩ ∧ b < B ∧ EdAt w b (o + i * 5) es[i] := by
  have g := fun j (hj : j < 5) => h (i * 5 + j) _ ((edVals_at es i hi j hj).trans (List.getElem?_eq_getElem (by rw [edCells_length]; exact hj)))
  obtain ⟨b, o, rfl, hb, h0⟩ := g 0 (by omega)
  refine ⟨b, o, rfl, hb, ?_⟩
  have g' := fun j (hj : j < 5) => (g j hj)
  have at_ : ∀ j (hj : j < 5), w.cell? ⟨b, o + (i * 5 + j), none⟩ = some ((edCells es[i])[j]'(by rw [edCells_length]; exact hj)) := by
    intro j hj
    obtain ⟨b', o', e, _, hc⟩ := g j hj
    injection e with e
    injection e with e1 e2 _
    subst e1 e2
    exact hc
  exact ⟨by simpa [edCells] using at_ 0 (by omega), by simpa [edCells, Nat.add_assoc] using at_ 1 (by omega), by simpa [edCells, Nat.add_assoc] using at_ 2 (by omega), by simpa [edCells, Nat.add_assoc] using at_ 3 (by omega), by simpa [edCells, Nat.add_assoc] using at_ 4 (by omega)⟩
theorem EdAt.keeps {w w' : World} {b o : Nat} {x : Ed} (h : EdAt w b o x) (hk : ∀ o', w'.cell? ⟨b, o', none⟩ = w.cell? ⟨b, o', none⟩) : EdAt w' b o x :=
  ⟨(hk _).trans h.f, (hk _).trans h.t, (hk _).trans h.k, (hk _).trans h.a, (hk _).trans h.b⟩
theorem EdAt.below {w w' : World} {B b o : Nat} {x : Ed} (h : EdAt w b o x) (hB : Below B w w') (hb : b < B) : EdAt w' b o x :=
  h.keeps fun _ => hB.cell (p := ⟨b, _, none⟩) hb

/-- A row of edges, read off its cells. -/
theorem Row.of_edges {w : World} {B : Nat} {b o : Nat} {es : List Ed} (hb : b < B) (h : ∀ i (hi : i < es.length), EdAt w b (o + i * 5) es[i]) : Row w B (some ⟨b, o, none⟩) (edVals es) := by
  intro k x hx
  have hk : k < es.length * 5 := by
    have := (List.getElem?_eq_some_iff.1 hx).1
    rwa [edVals_length] at this
  have hdiv : k / 5 < es.length := by omega
  have hk5 : k / 5 * 5 + k % 5 = k := by omega
  have hm : k % 5 < 5 := Nat.mod_lt _ (by omega)
  rw [← hk5, edVals_at es (k / 5) hdiv (k % 5) hm] at hx
  refine ⟨b, o, rfl, hb, ?_⟩
  have hE := h (k / 5) hdiv
  rw [← hk5, ← Nat.add_assoc]
  generalize k / 5 = i at *
  match k % 5, hm, hx with
  | 0, _, hx => simp [edCells] at hx; subst hx; exact hE.f
  | 1, _, hx => simp [edCells] at hx; subst hx; exact hE.t
  | 2, _, hx => simp [edCells] at hx; subst hx; exact hE.k
  | 3, _, hx => simp [edCells] at hx; subst hx; exact hE.a
  | 4, _, hx => simp [edCells] at hx; subst hx; exact hE.b

/-- The bounds that an argument's edge keeps. -/
structure Ed.Ok (x : Ed) : Prop where
  f : -9223372036854775808 ≤ x.f ∧ x.f ≤ 9223372036854775807
  t : -9223372036854775808 ≤ x.t ∧ x.t ≤ 9223372036854775807
  k : -9223372036854775808 ≤ x.k ∧ x.k ≤ 9223372036854775807
  a : x.a.size ≤ maxLen
  b : x.b.size ≤ maxLen
def edTotal (es : List Ed) : Nat := (es.map fun x => x.a.size + x.b.size).sum
theorem edTotal_next (es : List Ed) (k : Nat) (h : k < es.length) : edTotal (es.take (k + 1)) = edTotal (es.take k) + (es[k].a.size + es[k].b.size) := by
  unfold edTotal
  rw [take_next es k h, List.map_append, List.sum_append, List.map_cons, List.map_nil, List.sum_cons, List.sum_nil, Nat.add_zero]

/-- One edge's cells, opened. -/
theorem open_edge {H : Type} {enc : TypeId × Value → H} {P : Program} {w : World} {base : Nat} {spare : Nat → Bool} {held : Bool} {t : TypeId} {fuel : Nat} {cs : List Value} {x : DataW H × List MemPlace} {f0 f1 f2 g0 g1 g2 : Field}
    (hs : P.underlying t = some (.struct #[f0, f1, f2])) (hC : P.cellsOf t = 5) (h0 : P.underlying f0.type = some (.int .i64)) (h1 : P.underlying f1.type = some (.int .i64)) (h2 : P.underlying f2.type = some (.struct #[g0, g1, g2]))
    (hoff : (f0.offset, f1.offset, f2.offset, g0.offset, g1.offset, g2.offset) = (0, 1, 2, 0, 1, 2)) (hcs : (P.cellsOf f0.type, P.cellsOf f1.type, P.cellsOf f2.type, P.cellsOf g0.type, P.cellsOf g1.type, P.cellsOf g2.type) = (1, 1, 3, 1, 1, 1))
    (k0 : P.underlying g0.type = some (.int .i64)) (k1 : P.underlying g1.type = some .string) (k2 : P.underlying g2.type = some .string)
    (h : DataW.trod enc P w base spare held fuel t cs = some x) : ∃ y : Ed, cs = edCells y ∧ y.Ok := by
  simp only [Prod.mk.injEq] at hoff hcs
  obtain ⟨o0, o1, o2, p0, p1, p2⟩ := hoff
  obtain ⟨c0, c1, c2, d0, d1, d2⟩ := hcs
  obtain ⟨xs, n, _, _, hl, hlen, hg⟩ := DataW.trod_struct hs h
  rw [hC] at hl
  match cs, hl with
  | [v0, v1, v2, v3, v4], _ =>
    match xs, hlen with
    | [y0, y1, y2], _ =>
      have e0 := hg 0 f0 rfl
      have e1 := hg 1 f1 rfl
      have e2 := hg 2 f2 rfl
      rw [o0, c0] at e0
      rw [o1, c1] at e1
      rw [o2, c2] at e2
      simp only [List.drop, List.take] at e0 e1 e2
      obtain ⟨a0, q0, _, w0⟩ := DataW.trod_int h0 (e0.trans rfl)
      obtain ⟨a1, q1, _, w1⟩ := DataW.trod_int h1 (e1.trans rfl)
      obtain ⟨zs, m, _, _, _, hlen2, hg2⟩ := DataW.trod_struct h2 (e2.trans rfl)
      match zs, hlen2 with
      | [z0, z1, z2], _ =>
        have u0 := hg2 0 g0 rfl
        have u1 := hg2 1 g1 rfl
        have u2 := hg2 2 g2 rfl
        rw [p0, d0] at u0
        rw [p1, d1] at u1
        rw [p2, d2] at u2
        simp only [List.drop, List.take] at u0 u1 u2
        obtain ⟨a2, q2, _, w2⟩ := DataW.trod_int k0 (u0.trans rfl)
        obtain ⟨a3, q3, _, w3⟩ := DataW.trod_string k1 (u1.trans rfl)
        obtain ⟨a4, q4, _, w4⟩ := DataW.trod_string k2 (u2.trans rfl)
        simp only [List.cons.injEq, and_true] at q0 q1 q2 q3 q4
        subst q0 q1 q2 q3 q4
        exact ⟨⟨a0, a1, a2, a3, a4⟩, rfl, ⟨i64_bounds w0, i64_bounds w1, i64_bounds w2, w3, w4⟩⟩

theorem Row.ownedN {w : World} {base : Nat} {e : TypeId} {size n : Nat} {a : Option Addr} {c : Nat} {xs : List Value} (h : w.ownsRow base e size (.slice a n c) n xs) : Row w w.heap.size a xs := by
  intro k x hx
  rcases h.2 with ⟨hv, hn⟩ | ⟨g, cap, cur, hv, _, hg, _⟩
  · have hl := h.1
    rw [hn, Nat.zero_mul] at hl
    rw [List.eq_nil_of_length_eq_zero hl] at hx
    simp at hx
  · injection hv with ha _ _
    refine ⟨g, 0, ha, ?_, ?_⟩
    · rcases Nat.lt_or_ge g w.heap.size with h1 | h1
      · exact h1
      · rw [Array.getElem?_eq_none h1] at hg; cases hg
    · have hc := h.cells (g := g) (by subst ha; rfl) k x hx
      rw [add_plain] at hc
      exact hc

/-- The three cells of a box. -/
abbrev Box3 (W : World) (g : Nat) (x y z : Value) : Prop := W.cell? ⟨g, 0, none⟩ = some x ∧ W.cell? ⟨g, 1, none⟩ = some y ∧ W.cell? ⟨g, 2, none⟩ = some z
theorem Box3.keep {W W' : World} {g : Nat} {x y z : Value} (h : Box3 W g x y z) (hg : g < W.heap.size) (hb : Below W.heap.size W W') : Box3 W' g x y z :=
  ⟨(hb.cell (p := ⟨g, 0, none⟩) hg).trans h.1, (hb.cell (p := ⟨g, 1, none⟩) hg).trans h.2.1, (hb.cell (p := ⟨g, 2, none⟩) hg).trans h.2.2⟩
theorem one_box (w : World) (u0 u1 u2 : Value) (t : TypeId) : ∃ W0, w.alloc (.cells #[u0, u1, u2] t) = W0 ∧ Below w.heap.size w W0 ∧ w.heap.size < W0.heap.size ∧ Box3 W0 w.heap.size u0 u1 u2 :=
  ⟨_, rfl, (Below.refl _ _).alloc (Nat.le_refl _) _, by simp, by simp [Box3, go_sem]⟩
theorem two_box (w : World) (u0 u1 u2 v0 v1 v2 : Value) (t : TypeId) : ∃ W0, (w.alloc (.cells #[u0, u1, u2] t)).alloc (.cells #[v0, v1, v2] t) = W0 ∧ Below w.heap.size w W0 ∧ w.heap.size + 1 < W0.heap.size ∧ Box3 W0 w.heap.size u0 u1 u2 ∧ Box3 W0 (w.heap.size + 1) v0 v1 v2 :=
  ⟨_, rfl, ((Below.refl _ _).alloc (Nat.le_refl _) _).alloc (by simp) _, by simp, by simp [Box3, go_sem], by simp [Box3, go_sem]⟩

/-- The five cells of an edge's box. -/
abbrev Box5 (W : World) (g : Nat) (x : Ed) : Prop := W.cell? ⟨g, 0, none⟩ = some (.int .i64 x.f) ∧ W.cell? ⟨g, 1, none⟩ = some (.int .i64 x.t) ∧ W.cell? ⟨g, 2, none⟩ = some (.int .i64 x.k) ∧ W.cell? ⟨g, 3, none⟩ = some (.string x.a) ∧ W.cell? ⟨g, 4, none⟩ = some (.string x.b)
theorem Box5.keep {W W' : World} {g : Nat} {x : Ed} (h : Box5 W g x) (hg : g < W.heap.size) (hb : Below W.heap.size W W') : Box5 W' g x :=
  ⟨(hb.cell (p := ⟨g, 0, none⟩) hg).trans h.1, (hb.cell (p := ⟨g, 1, none⟩) hg).trans h.2.1, (hb.cell (p := ⟨g, 2, none⟩) hg).trans h.2.2.1, (hb.cell (p := ⟨g, 3, none⟩) hg).trans h.2.2.2.1, (hb.cell (p := ⟨g, 4, none⟩) hg).trans h.2.2.2.2⟩
theorem edge_box (w : World) (x : Ed) (t : TypeId) : ∃ W0, w.alloc (.cells #[.int .i64 x.f, .int .i64 x.t, .int .i64 x.k, .string x.a, .string x.b] t) = W0 ∧ Below w.heap.size w W0 ∧ w.heap.size < W0.heap.size ∧ Box5 W0 w.heap.size x :=
  ⟨_, rfl, (Below.refl _ _).alloc (Nat.le_refl _) _, by simp, by simp [Box5, go_sem]⟩

/-- A []string that lies in a struct, opened. -/
theorem open_strs_in {H : Type} {enc : TypeId × Value → H} {P : Program} {W : World} {t e : TypeId} {v : Value} {n : Nat} {y : DataW H × List MemPlace}
    (ht : P.underlying t = some (.slice e)) (he : P.underlying e = some .string) (hc : P.cellsOf e = 1) (hlt : ∀ x ∈ y.2, x.block < W.heap.size)
    (h : DataW.trod enc P W 0 (fun _ => true) true n t [v] = some y) :
    ∃ (a : Option Addr) (cap : Nat) (ss : List ByteArray), v = .slice a ss.length cap ∧ ss.length ≤ cap ∧ ss.length ≤ maxLen ∧ Row W W.heap.size a (strVals ss) ∧ (∀ s ∈ ss, s.size ≤ maxLen) := by
  rcases open_strings ht he hc h with ⟨hcs, hx⟩ | ⟨a, len, cap, ss, hcs, _, hl, hm, hz, hx, hcell, hws⟩
  · simp only [List.cons.injEq, and_true] at hcs
    subst hcs
    exact ⟨none, 0, [], rfl, Nat.le_refl _, Nat.zero_le _, Row.nil_, fun s hs => by simp at hs⟩
  · simp only [List.cons.injEq, and_true] at hcs
    subst hcs
    subst hx
    simp only [if_true] at hz
    have hlen : (ss.take len).length = len := by simp; omega
    refine ⟨some a, cap, ss.take len, by rw [hlen], by omega, by omega, ?_, fun s hs => hws s (List.mem_of_mem_take hs)⟩
    intro k x hx
    obtain ⟨hk, rfl⟩ := List.getElem?_eq_some_iff.1 hx
    have hk' : k < len := by simpa [strVals, hz] using (Nat.lt_of_lt_of_le hk (by simp [strVals]; omega) : k < len)
    obtain ⟨b, off, spot⟩ := a
    have hspot : spot = none := by simpa [Addr.add] using World.cell?_spot (hcell 0 (by omega))
    subst hspot
    refine ⟨b, off, rfl, hlt (.cell b (off + 0)) (MemPlace.mem_row.2 ⟨0, by omega, by simp⟩), ?_⟩
    rw [← add_plain, hcell k (by omega)]
    have hk2 : k < ss.length := by omega
    simp [strVals, List.getD, hk2]

/-- A row of edges that lies in a struct, opened. -/
theorem open_edges_in {H : Type} {enc : TypeId × Value → H} {P : Program} {W : World} {u t : TypeId} {v : Value} {n : Nat} {y : DataW H × List MemPlace} {f0 f1 f2 g0 g1 g2 : Field}
    (ht : P.underlying u = some (.slice t)) (hs : P.underlying t = some (.struct #[f0, f1, f2])) (hC : P.cellsOf t = 5) (h0 : P.underlying f0.type = some (.int .i64)) (h1 : P.underlying f1.type = some (.int .i64)) (h2 : P.underlying f2.type = some (.struct #[g0, g1, g2]))
    (hoff : (f0.offset, f1.offset, f2.offset, g0.offset, g1.offset, g2.offset) = (0, 1, 2, 0, 1, 2)) (hcs : (P.cellsOf f0.type, P.cellsOf f1.type, P.cellsOf f2.type, P.cellsOf g0.type, P.cellsOf g1.type, P.cellsOf g2.type) = (1, 1, 3, 1, 1, 1))
    (k0 : P.underlying g0.type = some (.int .i64)) (k1 : P.underlying g1.type = some .string) (k2 : P.underlying g2.type = some .string) (hlt : ∀ x ∈ y.2, x.block < W.heap.size)
    (h : DataW.trod enc P W 0 (fun _ => true) true n u [v] = some y) :
    ∃ (a : Option Addr) (cap : Nat) (es : List Ed), v = .slice a es.length cap ∧ es.length ≤ cap ∧ es.length ≤ maxLen ∧ Row W W.heap.size a (edVals es) ∧ (∀ x ∈ es, x.Ok) := by
  rcases open_slice ht h with ⟨hcs, _⟩ | ⟨a, len, cap, m, n', D, Pl, hcs', _, hl, hm, hmm, hx', hi⟩
  · simp only [List.cons.injEq, and_true] at hcs
    subst hcs
    exact ⟨none, 0, [], rfl, Nat.le_refl _, Nat.zero_le _, Row.nil_, fun s hs => by simp at hs⟩
  · simp only [List.cons.injEq, and_true] at hcs'
    subst hcs'
    simp only [if_true] at hmm
    subst hmm
    have hone : ∀ i, i < len → ∃ z : Ed, W.cells? 0 (a.add (i * 5)) 5 = some (edCells z) ∧ z.Ok := by
      intro i hil
      obtain ⟨cs', hc, ht'⟩ := hi i (Nat.lt_of_lt_of_le hil hl)
      obtain ⟨z, rfl, hz⟩ := open_edge hs hC h0 h1 h2 hoff hcs k0 k1 k2 ht'
      rw [hC] at hc
      exact ⟨z, hc, hz⟩
    let g : Nat → Ed := fun i => if h : i < len then Classical.choose (hone i h) else ⟨0, 0, 0, ⟨#[]⟩, ⟨#[]⟩⟩
    have hg : ∀ i, i < len → W.cells? 0 (a.add (i * 5)) 5 = some (edCells (g i)) ∧ (g i).Ok := by
      intro i hil
      have := Classical.choose_spec (hone i hil)
      simpa [g, hil] using this
    have hlen : ((List.range len).map g).length = len := by simp
    refine ⟨some a, _, (List.range len).map g, by rw [hlen], by omega, by omega, ?_, ?_⟩
    · obtain ⟨b, off, spot⟩ := a
      have hcell : ∀ i, i < len → ∀ j (hj : j < 5), W.cell? ((⟨b, off, spot⟩ : Addr).add (i * 5 + j)) = some ((edCells (g i))[j]'(by rw [edCells_length]; exact hj)) := by
        intro i hil j hj
        obtain ⟨_, _, hat⟩ := World.cells?_some (hg i hil).1
        have := hat j hj
        rw [Go.Deep.add_add] at this
        rw [this, List.getElem?_eq_getElem (by rw [edCells_length]; exact hj)]
      intro k x hx
      have hk : k < len * 5 := by
        have := (List.getElem?_eq_some_iff.1 hx).1
        rwa [edVals_length, hlen] at this
      have hspot : spot = none := by
        have := World.cell?_spot (hcell 0 (by omega) 0 (by omega))
        simpa [Addr.add] using this
      subst hspot
      have hk5 : k / 5 * 5 + k % 5 = k := by omega
      have hm5 : k % 5 < 5 := Nat.mod_lt _ (by omega)
      refine ⟨b, off, rfl, ?_, ?_⟩
      · refine hlt (.cell b (off + 0)) ?_
        rw [hx']
        exact List.mem_append_left _ (MemPlace.mem_row.2 ⟨0, by rw [hC]; omega, by simp⟩)
      · have h1 := hcell (k / 5) (by omega) (k % 5) hm5
        rw [hk5, add_plain] at h1
        rw [h1]
        rw [← hk5, edVals_at _ (k / 5) (by rw [hlen]; omega) (k % 5) hm5, List.getElem?_eq_getElem (by rw [edCells_length]; exact hm5)] at hx
        simpa using hx
    · intro x hx
      obtain ⟨i, hi', rfl⟩ := List.mem_map.1 hx
      exact (hg i (List.mem_range.1 hi')).2

/-- An argument that is a program, opened. -/
theorem open_prog {H : Type} {enc : TypeId × Value → H} {P : Program} {W : World} {r : Reach} {b0 : Nat} {t te : TypeId} {q0 q1 q2 : Field} {v : Value} {d : DataW H} {p : List MemPlace} {e : TypeId} {f0 f1 f2 g0 g1 g2 : Field}
    (hp : P.underlying t = some (.struct #[q0, q1, q2])) (hone : oneCellFields P #[q0, q1, q2] = true) (hCp : P.cellsOf t = 3)
    (hq0 : P.underlying q0.type = some (.slice e)) (he : P.underlying e = some .string) (hce : P.cellsOf e = 1) (hq1 : P.underlying q1.type = some (.int .i64)) (hq2 : P.underlying q2.type = some (.slice te))
    (hs : P.underlying te = some (.struct #[f0, f1, f2])) (hC : P.cellsOf te = 5) (h0 : P.underlying f0.type = some (.int .i64)) (h1 : P.underlying f1.type = some (.int .i64)) (h2 : P.underlying f2.type = some (.struct #[g0, g1, g2]))
    (hoff : (f0.offset, f1.offset, f2.offset, g0.offset, g1.offset, g2.offset) = (0, 1, 2, 0, 1, 2)) (hcs : (P.cellsOf f0.type, P.cellsOf f1.type, P.cellsOf f2.type, P.cellsOf g0.type, P.cellsOf g1.type, P.cellsOf g2.type) = (1, 1, 3, 1, 1, 1))
    (k0 : P.underlying g0.type = some (.int .i64)) (k1 : P.underlying g1.type = some .string) (k2 : P.underlying g2.type = some .string) (hlt : ∀ x ∈ p, x.block < W.heap.size)
    (hv : Value.okWide P W r b0 t v) (h : DataW.Trod enc P W 0 (fun _ => true) true t v d p) :
    ∃ (a : Option Addr) (cap : Nat) (ss : List ByteArray) (n : Int) (b : Option Addr) (capb : Nat) (es : List Ed), v = .agg #[.slice a ss.length cap, .int .i64 n, .slice b es.length capb] ∧
      (ss.length ≤ maxLen ∧ (∀ s ∈ ss, s.size ≤ maxLen) ∧ Row W W.heap.size a (strVals ss)) ∧ (-9223372036854775808 ≤ n ∧ n ≤ 9223372036854775807) ∧ (es.length ≤ maxLen ∧ (∀ x ∈ es, x.Ok) ∧ Row W W.heap.size b (edVals es)) := by
  obtain ⟨v0, v1, v2, y0, y1, y2, n, rfl, _, rfl, e0, e1, e2⟩ := open_agg3 hp hone hCp hv h
  obtain ⟨a, cap, ss, rfl, _, l0, r0, w0⟩ := open_strs_in hq0 he hce (fun x hx => hlt x (by simp [hx])) e0
  obtain ⟨n1, q1', _, w1⟩ := DataW.trod_int hq1 e1
  obtain ⟨b, capb, es, rfl, _, l2, r2, w2⟩ := open_edges_in hq2 hs hC h0 h1 h2 hoff hcs k0 k1 k2 (fun x hx => hlt x (by simp [hx])) e2
  simp only [List.cons.injEq, and_true] at q1'
  subst q1'
  exact ⟨a, cap, ss, n1, b, capb, es, rfl, ⟨l0, w0, r0⟩, i64_bounds w1, ⟨l2, w2, r2⟩⟩
end Go.Proofs.YtpmmjaceehlpiaaGreatDoor
/-
  Which programs are right: the program's answer and the model's.
-/
namespace Go.Proofs.YtpmmjaceehlpiaaGreatDoor
open Go Go.RowKit

def pointB (p n : Int) : Bool := decide (0 ≤ n) && decide (n < p)
def edB (ss : List ByteArray) (p : Int) (x : Ed) : Bool := pointB p x.f && pointB p x.t && stmtB ss x.k x.a x.b
def progB (ss : List ByteArray) (p : Int) (es : List Ed) : Bool := goodVars ss && decide (1 ≤ p) && decide (p ≤ 12) && decide (es.length ≤ 24) && es.all (edB ss p)
theorem all_at {es : List Ed} {f : Ed → Bool} {k : Nat} (h : k < es.length) (hf : f es[k] = false) : es.all f = false := by
  rw [List.all_eq_false]
  exact ⟨es[k], List.getElem_mem h, by simp [hf]⟩
theorem all_next {es : List Ed} {f : Ed → Bool} {k : Nat} (h : k < es.length) (ha : (es.take k).all f = true) (hf : f es[k] = true) : (es.take (k + 1)).all f = true := by
  rw [take_next es k h, List.all_append, ha]
  simp [hf]

theorem progB_false {ss : List ByteArray} {p : Int} {es : List Ed} (h : ¬ (goodVars ss = true ∧ 1 ≤ p ∧ p ≤ 12 ∧ es.length ≤ 24 ∧ es.all (edB ss p) = true)) : progB ss p es = false := by
  cases hh : progB ss p es with
  | false => rfl
  | true => exact absurd (by simpa [progB, and_assoc] using hh) h
theorem progB_true {ss : List ByteArray} {p : Int} {es : List Ed} (h1 : goodVars ss = true) (h2 : 1 ≤ p) (h3 : p ≤ 12) (h4 : es.length ≤ 24) (h5 : es.all (edB ss p) = true) : progB ss p es = true := by
  simp only [progB, h1, h2, h3, h4, h5, decide_true, Bool.and_self]

theorem implIsPoint (a b : Option Addr) (na ca nb cb : Nat) (p n : Int) (w : World) : Calls Tryz.prog 92 #[.agg #[.slice a na ca, .int .i64 p, .slice b nb cb], .int .i64 n] w (GaveB (.bool (pointB p n)) w) := by
  by_cases h0 : 0 ≤ n <;> by_cases h1 : n < p
  all_goals
    go_enter Tryz.func92, Tryz.ntmps92
    go_wp2
    go_ret
    exact ⟨by simp [pointB, h0, h1], (Below.refl _ _).alloc (Nat.le_refl _) _⟩

set_option maxHeartbeats 3200000 in
theorem implIsProgram (a b : Option Addr) (ca cb : Nat) (ss : List ByteArray) (p : Int) (es : List Ed) (w : World) (hs : ss.length ≤ maxLen ∧ (∀ s ∈ ss, s.size ≤ maxLen) ∧ Row w w.heap.size a (strVals ss)) (he : es.length ≤ maxLen ∧ Row w w.heap.size b (edVals es)) (hT : HasNamesTable w) :
    Calls Tryz.prog 50 #[.agg #[.slice a ss.length ca, .int .i64 p, .slice b es.length cb]] w (GaveB (.bool (progB ss p es)) w) := by
  have hlen := he.1
  unfold maxLen at hlen
  have key : ∀ W, Below w.heap.size w W → Row W W.heap.size a (strVals ss) := fun W h => (hs.2.2.below h).grow h.size
  go_enter Tryz.func50, Tryz.ntmps50
  go_wp2_with fail
  obtain ⟨W0, hW0, hb0, hs0, hA0⟩ := one_box w (.slice a ss.length ca) (.int .i64 p) (.slice b es.length cb) 27
  rw [hW0]
  clear hW0
  refine (implAreVars a ca ss _ hs.1 hs.2.1 (key _ hb0)).mono ?_
  rintro e w1 ⟨rfl, hb1⟩
  have hB1 := hb0.trans (hb1.mono hb0.size)
  have hA1 := hA0.keep hs0 hb1
  obtain ⟨c0, c1, c2⟩ := hA0.keep hs0 hb1
  have hs1 : w.heap.size < w1.heap.size := Nat.lt_of_lt_of_le hs0 hb1.size
  clear hb1 hA0 hs0 hb0
  generalize hg : goodVars ss = gv
  cases gv with
  | false =>
    have hf := Lib.hid (progB_false (p := p) (es := es) (fun h => by rw [hg] at h; cases h.1))
    go_wp2
    go_ret
    exact ⟨by rw [hf.out]; rfl, hB1⟩
  | true =>
    by_cases h1 : 1 ≤ p
    · by_cases h2 : p ≤ 12
      · by_cases h3 : es.length ≤ 24
        · go_wp2
          clear c0 c1 c2
          go_loopw [28] (fun i wr => ∃ k : Nat, k ≤ es.length ∧ i = .int .i64 k ∧ (es.take k).all (edB ss p) = true ∧ Below w1.heap.size w1 wr) (fun i _ => es.length - (intOf i).toNat)
          case atStart => exact ⟨0, Nat.zero_le _, rfl, rfl, Below.refl _ _⟩
          case round =>
            obtain ⟨k, hk, rfl, hall, hb⟩ := hrel
            have hBr := hB1.trans (hb.mono hB1.size)
            by_cases hlt : k < es.length
            · obtain ⟨b0, o, rfl, hbW, hE0⟩ := he.2.edge k hlt
              obtain ⟨c0, c1, c2, c3, c4⟩ := hE0.below hBr hbW
              have hno : edB ss p es[k] = false → progB ss p es = false := fun hf => progB_false fun h => by rw [all_at hlt hf] at h; cases h.2.2.2.2
              have hyes : edB ss p es[k] = true → (es.take (k + 1)).all (edB ss p) = true := fun hf => all_next hlt hall hf
              generalize es[k] = x at *
              have hbox := hA1.keep hs1 hb
              have hsr : w.heap.size < wr.heap.size := Nat.lt_of_lt_of_le hs1 hb.size
              obtain ⟨e0, e1, e2⟩ := hbox
              clear hE0
              have Hall := Lib.hid hall
              clear hall
              go_wp2_with fail
              obtain ⟨W5, hW5, hb5, hs5, hX5⟩ := edge_box wr x 85
              rw [hW5]
              clear hW5
              have hAt : ∀ W, Below W5.heap.size W5 W → (Box3 W w.heap.size (.slice a ss.length ca) (.int .i64 p) (.slice (some ⟨b0, o, none⟩) es.length cb) ∧ Box5 W wr.heap.size x) ∧ Below w1.heap.size w1 W ∧ Below w.heap.size w W := fun W h => by
                have h5 : Below wr.heap.size wr W := hb5.trans (h.mono hb5.size)
                have h1 := hb.trans (h5.mono hb.size)
                exact ⟨⟨hA1.keep hs1 h1, hX5.keep hs5 h⟩, h1, hB1.trans (h1.mono hB1.size)⟩
              clear c0 c1 c2 c3 c4 e0 e1 e2 hX5 hb5 hs5
              refine (implIsPoint _ _ _ _ _ _ p x.f _).mono ?_
              rintro e w2 ⟨rfl, hb2⟩
              obtain ⟨⟨⟨e0, e1, e2⟩, ⟨c0, c1, c2, c3, c4⟩⟩, hb12, hBw2⟩ := hAt _ hb2
              cases hpf : pointB p x.f with
              | false =>
                have hf := Lib.hid (hno (by simp [edB, hpf]))
                go_wp2
                go_ret
                exact ⟨by rw [hf.out]; rfl, hBw2⟩
              | true =>
                go_wp2_with fail
                refine (implIsPoint _ _ _ _ _ _ p x.t _).mono ?_
                clear e0 e1 e2 c0 c1 c2 c3 c4
                rintro e w3 ⟨rfl, hb3⟩
                have hb3 := hb2.trans (hb3.mono hb2.size)
                obtain ⟨⟨⟨e0, e1, e2⟩, ⟨c0, c1, c2, c3, c4⟩⟩, hb13, hBw3⟩ := hAt _ hb3
                cases hpt : pointB p x.t with
                | false =>
                  have hf := Lib.hid (hno (by simp [edB, hpt]))
                  go_wp2
                  go_ret
                  exact ⟨by rw [hf.out]; rfl, hBw3⟩
                | true =>
                  go_wp2_with fail
                  refine (implIsStmt a ca ss x.k x.a x.b _ hs.1 hs.2.1 (key _ hBw3) (hT.keeps hBw3)).mono ?_
                  clear e0 e1 e2 c0 c1 c2 c3 c4
                  rintro e w4 ⟨rfl, hb4⟩
                  have hb4 := hb3.trans (hb4.mono hb3.size)
                  obtain ⟨_, hb14, hBw4⟩ := hAt _ hb4
                  cases hst : stmtB ss x.k x.a x.b with
                  | false =>
                    have hf := Lib.hid (hno (by simp [edB, hst]))
                    go_wp2
                    go_ret
                    exact ⟨by rw [hf.out]; rfl, hBw4⟩
                  | true =>
                    have hy := Lib.hid (hyes (by simp [edB, hpf, hpt, hst]))
                    go_wp2
                    go_roundw
                    case rel => exact ⟨k + 1, by omega, by go_num, hy.out, hb14⟩
                    case measure => simp [intOf]; omega
            · have hk' : k = es.length := by omega
              rw [hk', List.take_length] at hall
              have ht := Lib.hid (progB_true hg h1 h2 h3 hall)
              clear hall
              go_wp2
              go_ret
              exact ⟨by rw [ht.out]; rfl, hBr⟩
        · have hf := Lib.hid (progB_false (ss := ss) (p := p) (es := es) (fun h => h3 h.2.2.2.1))
          go_wp2
          go_ret
          exact ⟨by rw [hf.out]; rfl, hB1⟩
      · have hf := Lib.hid (progB_false (ss := ss) (p := p) (es := es) (fun h => h2 h.2.2.1))
        go_wp2
        go_ret
        exact ⟨by rw [hf.out]; rfl, hB1⟩
    · have hf := Lib.hid (progB_false (ss := ss) (p := p) (es := es) (fun h => h1 h.2.1))
      go_wp2
      go_ret
      exact ⟨by rw [hf.out]; rfl, hB1⟩

theorem wrap_pred {p : Int} (h : 1 ≤ p) (h' : p ≤ 9223372036854775807) : IntKind.i64.wrap (p - 1) = p - 1 := by
  simp [IntKind.wrap, IntKind.bits, IntKind.signed]
  omega

set_option maxHeartbeats 3200000 in
theorem specIsProgram (a b : Option Addr) (ca cb : Nat) (ss : List ByteArray) (p : Int) (es : List Ed) (w : World) (hs : ss.length ≤ maxLen ∧ (∀ s ∈ ss, s.size ≤ maxLen) ∧ Row w w.heap.size a (strVals ss)) (hp : -9223372036854775808 ≤ p ∧ p ≤ 9223372036854775807) (he : es.length ≤ maxLen ∧ Row w w.heap.size b (edVals es)) :
    Calls Tryz.prog 56 #[.agg #[.slice a ss.length ca, .int .i64 p, .slice b es.length cb]] w (GaveB (.bool (progB ss p es)) w) := by
  have hlen := he.1
  unfold maxLen at hlen
  have key : ∀ W, Below w.heap.size w W → Row W W.heap.size a (strVals ss) := fun W h => (hs.2.2.below h).grow h.size
  obtain ⟨q, hq⟩ : ∃ q, IntKind.i64.wrap (p - 1) = q := ⟨_, rfl⟩
  have hq1 : 1 ≤ p → q = p - 1 := fun h => by rw [← hq, wrap_pred h hp.2]
  go_enter Tryz.func56, Tryz.ntmps56
  go_wp2
  obtain ⟨W0, hW0, hb0, hs0, hA0⟩ := one_box w (.slice a ss.length ca) (.int .i64 p) (.slice b es.length cb) 27
  rw [hW0]
  clear hW0
  go_loopw [3] (fun i wr => ∃ k : Nat, k ≤ es.length ∧ i = .int .i64 k ∧ (1 ≤ p → (es.take k).all (edB ss p) = true) ∧ Below W0.heap.size W0 wr) (fun i _ => es.length - (intOf i).toNat)
  case atStart => exact ⟨0, Nat.zero_le _, rfl, fun _ => rfl, Below.refl _ _⟩
  case round =>
    obtain ⟨k, hk, rfl, hall, hb⟩ := hrel
    have hBr := hb0.trans (hb.mono hb0.size)
    obtain ⟨e0, e1, e2⟩ := hA0.keep hs0 hb
    have hsr : w.heap.size < wr.heap.size := Nat.lt_of_lt_of_le hs0 hb.size
    by_cases hlt : k < es.length
    · obtain ⟨b0, o, rfl, hbW, hE0⟩ := he.2.edge k hlt
      obtain ⟨c0, c1, c2, c3, c4⟩ := hE0.below hBr hbW
      have hno : (1 ≤ p → edB ss p es[k] = false) → progB ss p es = false := fun hf => progB_false fun h => by have h' := hf h.2.1; rw [all_at hlt h'] at h; cases h.2.2.2.2
      have hyes : (1 ≤ p → edB ss p es[k] = true) → (1 ≤ p → (es.take (k + 1)).all (edB ss p) = true) := fun hf h => all_next hlt (hall h) (hf h)
      generalize es[k] = x at *
      clear hE0 hall
      go_wp2_with fail
      obtain ⟨W5, hW5, hb5, hs5, hX5⟩ := edge_box wr x 85
      rw [hW5]
      clear hW5
      have hAt : ∀ W, Below W5.heap.size W5 W → (Box3 W w.heap.size (.slice a ss.length ca) (.int .i64 p) (.slice (some ⟨b0, o, none⟩) es.length cb) ∧ Box5 W wr.heap.size x) ∧ Below W0.heap.size W0 W ∧ Below w.heap.size w W := fun W h => by
        have h5 : Below wr.heap.size wr W := hb5.trans (h.mono hb5.size)
        have h1 := hb.trans (h5.mono hb.size)
        exact ⟨⟨hA0.keep hs0 h1, hX5.keep hs5 h⟩, h1, hb0.trans (h1.mono hb0.size)⟩
      clear c0 c1 c2 c3 c4 e0 e1 e2 hX5 hb5 hs5
      obtain ⟨⟨⟨e0, e1, e2⟩, ⟨c0, c1, c2, c3, c4⟩⟩, hb12, hBw2⟩ := hAt _ (Below.refl _ _)
      refine (specIn3 x.f 0 q _).mono ?_
      rintro e w2 ⟨rfl, rfl⟩
      cases hpf : (decide (0 ≤ x.f) && decide (x.f ≤ q)) with
      | false =>
        have hf := Lib.hid (hno fun h => by rw [hq1 h] at hpf; have : pointB p x.f = false := by { simp [pointB] at hpf ⊢; intro h0; have := hpf h0; omega }; simp [edB, this])
        go_wp2
        go_ret
        exact ⟨by rw [hf.out]; rfl, hBw2⟩
      | true =>
        go_wp2_with fail
        refine (specIn3 x.t 0 q _).mono ?_
        rintro e w3 ⟨rfl, rfl⟩
        cases hpt : (decide (0 ≤ x.t) && decide (x.t ≤ q)) with
        | false =>
          have hf := Lib.hid (hno fun h => by rw [hq1 h] at hpt; have : pointB p x.t = false := by { simp [pointB] at hpt ⊢; intro h0; have := hpt h0; omega }; simp [edB, this])
          go_wp2
          go_ret
          exact ⟨by rw [hf.out]; rfl, hBw2⟩
        | true =>
          go_wp2_with fail
          refine (specIsStmt a ca ss x.k x.a x.b _ hs.1 hs.2.1 (key _ hBw2)).mono ?_
          clear e0 e1 e2 c0 c1 c2 c3 c4
          rintro e w4 ⟨rfl, hb4⟩
          obtain ⟨_, hb14, hBw4⟩ := hAt _ hb4
          cases hst : stmtB ss x.k x.a x.b with
          | false =>
            have hf := Lib.hid (hno fun _ => by simp [edB, hst])
            go_wp2
            go_ret
            exact ⟨by rw [hf.out]; rfl, hBw4⟩
          | true =>
            have hy := Lib.hid (hyes fun h => by
              rw [hq1 h] at hpf hpt
              have h1 : pointB p x.f = true := by { simp [pointB] at hpf ⊢; omega }
              have h2 : pointB p x.t = true := by { simp [pointB] at hpt ⊢; omega }
              simp [edB, h1, h2, hst])
            go_wp2
            go_roundw
            case rel => exact ⟨k + 1, by omega, by go_num, hy.out, hb14⟩
            case measure => simp [intOf]; omega
    · have hk' : k = es.length := by omega
      rw [hk', List.take_length] at hall
      have Hall := Lib.hid hall
      clear hall
      go_wp2_with fail
      refine (specAreVars a ca ss _ hs.1 hs.2.1 (key _ hBr)).mono ?_
      rintro e w2 ⟨rfl, rfl⟩
      cases hg : goodVars ss with
      | false =>
        have hf := Lib.hid (progB_false (p := p) (es := es) (fun h => by rw [hg] at h; cases h.1))
        go_wp2
        go_ret
        exact ⟨by rw [hf.out]; rfl, hBr⟩
      | true =>
        go_wp2_with fail
        refine (specIn3 p 1 12 _).mono ?_
        rintro e w3 ⟨rfl, rfl⟩
        cases hpp : (decide (1 ≤ p) && decide (p ≤ 12)) with
        | false =>
          have hf := Lib.hid (progB_false (ss := ss) (p := p) (es := es) (fun h => by simp [h.2.1, h.2.2.1] at hpp))
          go_wp2
          go_ret
          exact ⟨by rw [hf.out]; rfl, hBr⟩
        | true =>
          have hpp' : 1 ≤ p ∧ p ≤ 12 := by simpa using hpp
          by_cases h3 : es.length ≤ 24
          · have ht := Lib.hid (progB_true hg hpp'.1 hpp'.2 h3 (Hall.out hpp'.1))
            go_wp2
            go_ret
            exact ⟨by rw [ht.out]; simp; omega, hBr⟩
          · have hf := Lib.hid (progB_false (ss := ss) (p := p) (es := es) (fun h => h3 h.2.2.2.1))
            go_wp2
            go_ret
            exact ⟨by rw [hf.out]; simp; omega, hBr⟩
end Go.Proofs.YtpmmjaceehlpiaaGreatDoor
