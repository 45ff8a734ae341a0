/-
  Nodes of structures: where their rows lie and what they hold; rows of nodes; structures; arguments of these types, opened. Nothing here knows of the program's text.
-/
import Derived.Test.YtplchhahjmoodaaDoorHeapRows
import Derived.Test.YtplchhahjmoodaaDoorBoxes
import Derived.Lib.SmallJoins
namespace Go.Proofs.YtplchhahjmoodaaDoor
open Go Go.Joins Go.ChangeShapes Go.WideShapes Go.ChangeAt Go.RowKit Go.Deep

/-- A node: two rows of numbers, and two numbers. -/
structure Nd where
  h : Hp
  s : Int
  m : Int
def Nd.body (x : Nd) : (List Int × List Int) × Int × Int := (x.h.body, x.s, x.m)
abbrev ndC (a : Option Addr) (n ca : Nat) (b : Option Addr) (m cb : Nat) (s q : Int) : Value := .agg #[.slice a n ca, .slice b m cb, .int .i64 s, .int .i64 q]
def ndCells (x : Nd) : List Value := [.slice x.h.a x.h.vs.length x.h.ca, .slice x.h.b x.h.zs.length x.h.cb, .int .i64 x.s, .int .i64 x.m]
theorem ndCells_length (x : Nd) : (ndCells x).length = 4 := rfl
abbrev ndVals (ns : List Nd) : List Value := fl ndCells ns
/-- A row of nodes that may be read. -/
structure NodesAt (W : World) (a : Option Addr) (ns : List Nd) : Prop where
  row : Row W W.heap.size a (ndVals ns)
  each : ∀ x ∈ ns, x.h.At W
theorem NodesAt.below {W W' : World} {a : Option Addr} {ns : List Nd} (h : NodesAt W a ns) (hb : Below W.heap.size W W') : NodesAt W' a ns :=
  ⟨(h.row.below hb).grow hb.size, fun x hx => (h.each x hx).below hb⟩
abbrev NdItem (W : World) (b o k : Nat) (x : Nd) : Prop :=
  W.cell? ⟨b, o + k * 4, none⟩ = some (.slice x.h.a x.h.vs.length x.h.ca) ∧ W.cell? ⟨b, o + k * 4 + 1, none⟩ = some (.slice x.h.b x.h.zs.length x.h.cb) ∧
    W.cell? ⟨b, o + k * 4 + 2, none⟩ = some (.int .i64 x.s) ∧ W.cell? ⟨b, o + k * 4 + 3, none⟩ = some (.int .i64 x.m)
theorem NodesAt.item {W : World} {a : Option Addr} {ns : List Nd} (h : NodesAt W a ns) (k : Nat) (hk : k < ns.length) :
    ∃ b o, a = some ⟨b, o, none⟩ ∧ b < W.heap.size ∧ NdItem W b o k ns[k] ∧ ns[k].h.At W := by
  obtain ⟨b, o, rfl, hb, hc⟩ := Row.item ndCells_length (by omega) h.row k hk
  exact ⟨b, o, rfl, hb, ⟨hc 0 _ rfl, by rw [Nat.add_assoc]; exact hc 1 _ rfl, by rw [Nat.add_assoc]; exact hc 2 _ rfl, by rw [Nat.add_assoc]; exact hc 3 _ rfl⟩, h.each _ (List.getElem_mem hk)⟩
theorem set4_take (xs : List Value) (o : Nat) (u v x y : Value) (h : o + 4 ≤ xs.length) : ((((xs.set o u).set (o + 1) v).set (o + 2) x).set (o + 3) y).take (o + 4) = xs.take o ++ [u, v, x, y] := by
  apply List.ext_getElem?
  intro j
  rcases Nat.lt_or_ge j o with hj | hj
  · rw [List.getElem?_append_left (by simp; omega), List.getElem?_take_of_lt (by omega), List.getElem?_take_of_lt hj]
    simp only [List.getElem?_set]
    rw [if_neg (by omega), if_neg (by omega), if_neg (by omega), if_neg (by omega)]
  · rw [List.getElem?_append_right (by simp; omega), List.length_take, Nat.min_eq_left (by omega)]
    rcases Nat.lt_or_ge j (o + 4) with hj5 | hj5
    · obtain ⟨i, rfl, hi⟩ : ∃ i, j = o + i ∧ i < 4 := ⟨j - o, by omega, by omega⟩
      rw [List.getElem?_take_of_lt hj5, Nat.add_sub_cancel_left]
      simp only [List.getElem?_set, List.length_set]
      match i, hi with
      | 0, _ => simp; omega
      | 1, _ => simp; omega
      | 2, _ => simp; omega
      | 3, _ => simp; omega
    · rw [List.getElem?_eq_none (by rw [List.length_take]; omega), List.getElem?_eq_none (by simp; omega)]
def ndSize (x : Nd) : Nat := hpSize x.h
def ndTotal (ns : List Nd) : Nat := (ns.map ndSize).sum
theorem ndTotal_next (ns : List Nd) (k : Nat) (h : k < ns.length) : ndTotal (ns.take (k + 1)) = ndTotal (ns.take k) + ndSize ns[k] := by
  unfold ndTotal
  rw [take_next ns k h, List.map_append, List.sum_append, List.map_cons, List.map_nil, List.sum_cons, List.sum_nil, Nat.add_zero]

/-- A structure: a row of nodes and a row of numbers. -/
structure St where
  a : Option Addr
  ca : Nat
  ns : List Nd
  b : Option Addr
  cb : Nat
  zs : List Int
abbrev St.v (x : St) : Value := heV x.a x.ns.length x.ca x.b x.zs.length x.cb
def St.body (x : St) : List ((List Int × List Int) × Int × Int) × List Int := (x.ns.map Nd.body, x.zs)
structure St.At (W : World) (x : St) : Prop where
  nodes : NodesAt W x.a x.ns
  next : Row W W.heap.size x.b (intVals x.zs)
theorem St.At.below {W W' : World} {x : St} (h : x.At W) (hb : Below W.heap.size W W') : x.At W' := ⟨h.nodes.below hb, (h.next.below hb).grow hb.size⟩
def stSize (x : St) : Nat := x.ns.length + ndTotal x.ns + x.zs.length

/-- What an argument's node keeps. -/
structure Nd.Ok (W : World) (x : Nd) : Prop where
  h : HeapOk W x.h.a x.h.b x.h.vs x.h.zs
  s : -9223372036854775808 ≤ x.s ∧ x.s ≤ 9223372036854775807
  m : -9223372036854775808 ≤ x.m ∧ x.m ≤ 9223372036854775807
/-- What an argument's structure keeps. -/
structure St.Ok (W : World) (x : St) : Prop where
  at_ : x.At W
  ln : x.ns.length ≤ maxLen
  lz : x.zs.length ≤ maxLen
  each : ∀ y ∈ x.ns, y.Ok W
  bz : ∀ n ∈ x.zs, -9223372036854775808 ≤ n ∧ n ≤ 9223372036854775807
section
variable {H : Type} {enc : TypeId × Value → H} {P : Program} {W : World} {t u e : TypeId} {f0 f1 f2 f3 q0 q1 : Field}
theorem open_node_cells {n : Nat} {cs : List Value} {y : DataW H × List MemPlace} (hs : P.underlying t = some (.struct #[f0, f1, f2, f3])) (hC : P.cellsOf t = 4) (hoff : (f0.offset, f1.offset, f2.offset, f3.offset) = (0, 1, 2, 3))
    (hcs : (P.cellsOf f0.type, P.cellsOf f1.type, P.cellsOf f2.type, P.cellsOf f3.type) = (1, 1, 1, 1))
    (h0 : P.underlying f0.type = some (.slice e)) (h1 : P.underlying f1.type = some (.slice e)) (h2 : P.underlying f2.type = some (.int .i64)) (h3 : P.underlying f3.type = some (.int .i64)) (he : P.underlying e = some (.int .i64)) (hce : P.cellsOf e = 1)
    (hlt : ∀ x ∈ y.2, x.block < W.heap.size) (h : DataW.trod enc P W 0 (fun _ => true) true n t cs = some y) : ∃ x : Nd, cs = ndCells x ∧ x.Ok W := by
  simp only [Prod.mk.injEq] at hoff hcs
  obtain ⟨o0, o1, o2, o3⟩ := hoff
  obtain ⟨c0, c1, c2, c3⟩ := hcs
  obtain ⟨xs, m, rfl, rfl, hlen, hxl, hg⟩ := DataW.trod_struct hs h
  rw [hC] at hlen
  match cs, hlen, xs, hxl with
  | [s0, s1, s2, s3], _, [y0, y1, y2, y3], _ =>
    have e0 := hg 0 f0 rfl
    have e1 := hg 1 f1 rfl
    have e2 := hg 2 f2 rfl
    have e3 := hg 3 f3 rfl
    rw [o0, c0] at e0
    rw [o1, c1] at e1
    rw [o2, c2] at e2
    rw [o3, c3] at e3
    simp only [List.drop, List.take] at e0 e1 e2 e3
    obtain ⟨a, ca, vs, rfl, _, l0, r0, w0⟩ := open_nums_in h0 he hce (fun x hx => hlt x (by simp [hx])) (e0.trans rfl)
    obtain ⟨b, cb, zs, rfl, _, l1, r1, w1⟩ := open_nums_in h1 he hce (fun x hx => hlt x (by simp [hx])) (e1.trans rfl)
    obtain ⟨a2, q2, _, w2⟩ := DataW.trod_int h2 (e2.trans rfl)
    obtain ⟨a3, q3, _, w3⟩ := DataW.trod_int h3 (e3.trans rfl)
    simp only [List.cons.injEq, and_true] at q2 q3
    subst q2 q3
    exact ⟨⟨⟨a, ca, b, cb, vs, zs⟩, a2, a3⟩, rfl, ⟨⟨r0, r1⟩, l0, l1, w0, w1⟩, i64_bounds w2, i64_bounds w3⟩
theorem open_nodes_in {v : Value} {n : Nat} {y : DataW H × List MemPlace} (ht : P.underlying u = some (.slice t)) (hs : P.underlying t = some (.struct #[f0, f1, f2, f3])) (hC : P.cellsOf t = 4) (hoff : (f0.offset, f1.offset, f2.offset, f3.offset) = (0, 1, 2, 3))
    (hcs : (P.cellsOf f0.type, P.cellsOf f1.type, P.cellsOf f2.type, P.cellsOf f3.type) = (1, 1, 1, 1))
    (h0 : P.underlying f0.type = some (.slice e)) (h1 : P.underlying f1.type = some (.slice e)) (h2 : P.underlying f2.type = some (.int .i64)) (h3 : P.underlying f3.type = some (.int .i64)) (he : P.underlying e = some (.int .i64)) (hce : P.cellsOf e = 1)
    (hlt : ∀ x ∈ y.2, x.block < W.heap.size) (h : DataW.trod enc P W 0 (fun _ => true) true n u [v] = some y) :
    ∃ (a : Option Addr) (cap : Nat) (ns : List Nd), v = .slice a ns.length cap ∧ ns.length ≤ maxLen ∧ NodesAt W a ns ∧ (∀ x ∈ ns, x.Ok W) := by
  rcases open_slice ht h with ⟨hcs', _⟩ | ⟨a, len', cap', m, n', D, Pl, hcs', _, hl, hm, hmm, hx', hi⟩
  · simp only [List.cons.injEq, and_true] at hcs'
    subst hcs'
    exact ⟨none, 0, [], rfl, Nat.zero_le _, ⟨Row.nil_, fun x hx => by simp at hx⟩, fun x hx => by simp at hx⟩
  · simp only [List.cons.injEq, and_true] at hcs'
    subst hcs'
    simp only [if_true] at hmm
    subst hmm
    subst hx'
    have hone' : ∀ i, i < len' → ∃ z : Nd, W.cells? 0 (a.add (i * 4)) 4 = some (ndCells z) ∧ z.Ok W := by
      intro i hil
      obtain ⟨cs', hc, ht'⟩ := hi i (Nat.lt_of_lt_of_le hil hl)
      obtain ⟨z, rfl, hz⟩ := open_node_cells hs hC hoff hcs h0 h1 h2 h3 he hce (fun x hx => hlt x (List.mem_append_right _ (List.mem_flatMap.2 ⟨i, List.mem_range.2 (Nat.lt_of_lt_of_le hil hl), hx⟩))) ht'
      rw [hC] at hc
      exact ⟨z, hc, hz⟩
    let g : Nat → Nd := fun i => if h : i < len' then Classical.choose (hone' i h) else ⟨⟨none, 0, none, 0, [], []⟩, 0, 0⟩
    have hg : ∀ i, i < len' → W.cells? 0 (a.add (i * 4)) 4 = some (ndCells (g i)) ∧ (g i).Ok W := by
      intro i hil
      have := Classical.choose_spec (hone' i hil)
      simpa [g, hil] using this
    have hlen : ((List.range len').map g).length = len' := by simp
    have hok : ∀ x ∈ (List.range len').map g, x.Ok W := by
      intro x hx
      obtain ⟨i, hi', rfl⟩ := List.mem_map.1 hx
      exact (hg i (List.mem_range.1 hi')).2
    refine ⟨some a, _, (List.range len').map g, by rw [hlen], by omega, ⟨?_, fun x hx => (hok x hx).h.at_⟩, hok⟩
    obtain ⟨b, off, spot⟩ := a
    have hcell : ∀ i, i < len' → ∀ j (hj : j < 4), W.cell? ((⟨b, off, spot⟩ : Addr).add (i * 4 + j)) = some ((ndCells (g i))[j]'(by rw [ndCells_length]; exact hj)) := by
      intro i hil j hj
      obtain ⟨_, _, hat⟩ := World.cells?_some (hg i hil).1
      have := hat j hj
      rw [Go.Deep.add_add] at this
      rw [this, List.getElem?_eq_getElem (by rw [ndCells_length]; exact hj)]
    intro k x hx
    have hk : k < len' * 4 := by
      have := (List.getElem?_eq_some_iff.1 hx).1
      rwa [fl_length ndCells_length, hlen] at this
    have hspot : spot = none := by
      have := World.cell?_spot (hcell 0 (by omega) 0 (by omega))
      simpa [Addr.add] using this
    subst hspot
    have hk5 : k / 4 * 4 + k % 4 = k := by omega
    have hm5 : k % 4 < 4 := Nat.mod_lt _ (by omega)
    refine ⟨b, off, rfl, ?_, ?_⟩
    · refine hlt (.cell b (off + 0)) ?_
      exact List.mem_append_left _ (MemPlace.mem_row.2 ⟨0, by rw [hC]; omega, by simp⟩)
    · have h1 := hcell (k / 4) (by omega) (k % 4) hm5
      rw [hk5, add_plain] at h1
      rw [h1]
      rw [← hk5, fl_at ndCells_length _ (k / 4) (by rw [hlen]; omega) (k % 4) hm5, List.getElem?_eq_getElem (by rw [ndCells_length]; exact hm5)] at hx
      simpa using hx
/-- An argument that is a structure, opened. -/
theorem open_structure {r : Reach} {b0 : Nat} {s : TypeId} {v : Value} {d : DataW H} {p : List MemPlace} (hst : P.underlying s = some (.struct #[q0, q1])) (hone : oneCellFields P #[q0, q1] = true) (hCp : P.cellsOf s = 2)
    (hq0 : P.underlying q0.type = some (.slice t)) (hq1 : P.underlying q1.type = some (.slice e))
    (hs : P.underlying t = some (.struct #[f0, f1, f2, f3])) (hC : P.cellsOf t = 4) (hoff : (f0.offset, f1.offset, f2.offset, f3.offset) = (0, 1, 2, 3))
    (hcs : (P.cellsOf f0.type, P.cellsOf f1.type, P.cellsOf f2.type, P.cellsOf f3.type) = (1, 1, 1, 1))
    (h0 : P.underlying f0.type = some (.slice e)) (h1 : P.underlying f1.type = some (.slice e)) (h2 : P.underlying f2.type = some (.int .i64)) (h3 : P.underlying f3.type = some (.int .i64)) (he : P.underlying e = some (.int .i64)) (hce : P.cellsOf e = 1)
    (hlt : ∀ x ∈ p, x.block < W.heap.size) (hv : Value.okWide P W r b0 s v) (h : DataW.Trod enc P W 0 (fun _ => true) true s v d p) : ∃ x : St, v = x.v ∧ x.Ok W := by
  obtain ⟨v0, v1, y0, y1, n, rfl, _, rfl, e0, e1⟩ := open_agg2 hst hone hCp hv h
  obtain ⟨a, ca, ns, rfl, l0, r0, w0⟩ := open_nodes_in hq0 hs hC hoff hcs h0 h1 h2 h3 he hce (fun x hx => hlt x (by simp [hx])) e0
  obtain ⟨b, cb, zs, rfl, _, l1, r1, w1⟩ := open_nums_in hq1 he hce (fun x hx => hlt x (by simp [hx])) e1
  exact ⟨⟨a, ca, ns, b, cb, zs⟩, rfl, ⟨r0, r1⟩, l0, l1, w0, w1⟩
end
theorem Nd.Ok.below {W W' : World} {x : Nd} (h : x.Ok W) (hb : Below W.heap.size W W') : x.Ok W' := ⟨⟨h.h.at_.below hb (Nat.le_refl _), h.h.lv, h.h.lz, h.h.bv, h.h.bz⟩, h.s, h.m⟩
theorem St.Ok.below {W W' : World} {x : St} (h : x.Ok W) (hb : Below W.heap.size W W') : x.Ok W' := ⟨h.at_.below hb, h.ln, h.lz, fun y hy => (h.each y hy).below hb, h.bz⟩
/-- A structure of at most 1048576 elements altogether: what is used of that. -/
structure Small (s : List ((List Int × List Int) × Int × Int) × List Int) : Prop where
  nb : s.1.length ≤ 1048576
  zb : s.2.length ≤ 1048576
  eb : ∀ y ∈ s.1, y.1.1.length ≤ 1048576 ∧ y.1.2.length ≤ 1048576
section
variable {x : St} (h : Small x.body)
include h
theorem Small.n1 : x.ns.length ≤ 1048576 := by simpa [St.body] using h.nb
theorem Small.z1 : x.zs.length ≤ 1048576 := h.zb
theorem Small.e1 : ∀ y ∈ x.ns, y.h.vs.length ≤ 1048576 ∧ y.h.zs.length ≤ 1048576 := fun y hy => h.eb y.body (List.mem_map.2 ⟨y, hy, rfl⟩)
theorem Small.n : x.ns.length ≤ 1099511627776 := Nat.le_trans h.n1 (by omega)
theorem Small.z : x.zs.length ≤ 1099511627776 := Nat.le_trans h.z1 (by omega)
theorem Small.e : ∀ y ∈ x.ns, y.h.vs.length ≤ 1099511627776 ∧ y.h.zs.length ≤ 1099511627776 := fun y hy => by have := h.e1 y hy; omega
theorem small_max : x.ns.length ≤ maxLen ∧ x.zs.length ≤ maxLen ∧ ∀ z ∈ x.ns, z.h.vs.length ≤ maxLen ∧ z.h.zs.length ≤ maxLen := by
  have h1 := h.n1
  have h2 := h.z1
  unfold maxLen
  exact ⟨by omega, by omega, fun z hz => by have := h.e1 z hz; omega⟩
end
theorem ndSize_le : ∀ (ns : List Nd) (x : Nd), x ∈ ns → ndSize x ≤ ndTotal ns
  | y :: ns, x, hx => by
    have e : ndTotal (y :: ns) = ndSize y + ndTotal ns := by simp [ndTotal]
    rcases List.mem_cons.1 hx with rfl | hx
    · omega
    · have := ndSize_le ns x hx
      omega
theorem small_of {x : St} (h : stSize x ≤ 1048576) : Small x.body := by
  unfold stSize at h
  refine ⟨by simp only [St.body, List.length_map]; omega, by simp only [St.body]; omega, fun y hy => ?_⟩
  obtain ⟨z, hz, rfl⟩ := List.mem_map.1 hy
  have := ndSize_le _ _ hz
  unfold ndSize hpSize at this
  exact ⟨by show z.h.vs.length ≤ _; omega, by show z.h.zs.length ≤ _; omega⟩
theorem one_boxL (w : World) (xs : List Value) (t : TypeId) : ∃ W0, w.alloc (.cells xs.toArray t) = W0 ∧ Below w.heap.size w W0 ∧ BoxL W0 w.heap.size xs :=
  ⟨_, rfl, (Below.refl _ _).alloc (Nat.le_refl _) _, BoxL.new w xs t⟩
end Go.Proofs.YtplchhahjmoodaaDoor
