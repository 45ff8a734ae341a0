/-
  Arguments that are rows of heaps, and states, opened. Nothing here knows of the program's text.
-/
import Derived.Test.YtpmmjaceehlpiaaStateRows
import Derived.Lib.SmallJoins
namespace Go.Proofs.Ytpmmjaceehlpiaa
open Go Go.Joins Go.ChangeShapes Go.WideShapes Go.ChangeAt Go.RowKit Go.Deep

/-- What an argument's heap keeps. -/
def Hp.Ok (W : World) (x : Hp) : Prop := HeapOk W x.a x.b x.vs x.zs
section
variable {H : Type} {enc : TypeId × Value → H} {P : Program} {W : World} {t u e : TypeId} {q0 q1 : Field}
theorem open_heap_cells {n : Nat} {cs : List Value} {y : DataW H × List MemPlace} (hs : P.underlying t = some (.struct #[q0, q1])) (hone : oneCellFields P #[q0, q1] = true) (hC : P.cellsOf t = 2)
    (hq0 : P.underlying q0.type = some (.slice e)) (hq1 : P.underlying q1.type = some (.slice e)) (he : P.underlying e = some (.int .i64)) (hce : P.cellsOf e = 1) (hlt : ∀ x ∈ y.2, x.block < W.heap.size)
    (h : DataW.trod enc P W 0 (fun _ => true) true n t cs = some y) : ∃ x : Hp, cs = hpCells x ∧ x.Ok W := by
  obtain ⟨y0, y1, m, hx, hl, h0, h1⟩ := trod_struct2 hs h
  rw [hC] at hl
  obtain ⟨o0, k0⟩ := hone_of hone 0 q0 rfl
  obtain ⟨o1, k1⟩ := hone_of hone 1 q1 rfl
  match cs, hl with
  | [v0, v1], _ =>
    have e0 : DataW.trod enc P W 0 (fun _ => true) true m q0.type [v0] = some y0 := by simpa [o0, k0] using h0
    have e1 : DataW.trod enc P W 0 (fun _ => true) true m q1.type [v1] = some y1 := by simpa [o1, k1] using h1
    obtain ⟨a, ca, vs, rfl, _, l0, r0, w0⟩ := open_nums_in hq0 he hce (fun x hx' => hlt x (by rw [hx]; simp [hx'])) e0
    obtain ⟨b, cb, zs, rfl, _, l1, r1, w1⟩ := open_nums_in hq1 he hce (fun x hx' => hlt x (by rw [hx]; simp [hx'])) e1
    exact ⟨⟨a, ca, b, cb, vs, zs⟩, rfl, ⟨r0, r1⟩, l0, l1, w0, w1⟩

theorem open_heaps {v : Value} {d : DataW H} {p : List MemPlace} {base : Nat} (ht : P.underlying u = some (.slice t)) (hs : P.underlying t = some (.struct #[q0, q1])) (hone : oneCellFields P #[q0, q1] = true) (hC : P.cellsOf t = 2)
    (hq0 : P.underlying q0.type = some (.slice e)) (hq1 : P.underlying q1.type = some (.slice e)) (he : P.underlying e = some (.int .i64)) (hce : P.cellsOf e = 1) (hlt : ∀ x ∈ p, x.block < W.heap.size)
    (hval : Value.okWide P W .any base u v) (h : DataW.Trod enc P W 0 (fun _ => true) true u v d p) :
    ∃ (a : Option Addr) (cap : Nat) (hs : List Hp), v = .slice a hs.length cap ∧ hs.length ≤ maxLen ∧ HeapsAt W a hs ∧ (∀ x ∈ hs, x.Ok W) := by
  obtain ⟨a0, len, cap, rfl⟩ := okWide_slice ht hval
  obtain ⟨fuel, hf⟩ := h
  rcases open_slice ht hf with ⟨hcs, _⟩ | ⟨a, len', cap', m, n', D, Pl, hcs', _, hl, hm, hmm, hx', hi⟩
  · simp [Value.cells] at hcs
    obtain ⟨rfl, rfl, rfl⟩ := hcs
    exact ⟨none, 0, [], rfl, Nat.zero_le _, ⟨Row.nil_, fun x hx => by simp at hx⟩, fun x hx => by simp at hx⟩
  · simp [Value.cells] at hcs'
    obtain ⟨rfl, rfl, rfl⟩ := hcs'
    simp only [if_true] at hmm
    subst hmm
    simp only [Prod.mk.injEq] at hx'
    obtain ⟨_, rfl⟩ := hx'
    have hone' : ∀ i, i < len → ∃ z : Hp, W.cells? 0 (a.add (i * 2)) 2 = some (hpCells z) ∧ z.Ok W := by
      intro i hil
      obtain ⟨cs', hc, ht'⟩ := hi i (Nat.lt_of_lt_of_le hil hl)
      obtain ⟨z, rfl, hz⟩ := open_heap_cells hs hone hC hq0 hq1 he hce (fun x hx => hlt x (List.mem_append_right _ (List.mem_flatMap.2 ⟨i, List.mem_range.2 (Nat.lt_of_lt_of_le hil hl), hx⟩))) ht'
      rw [hC] at hc
      exact ⟨z, hc, hz⟩
    let g : Nat → Hp := fun i => if h : i < len then Classical.choose (hone' i h) else ⟨none, 0, none, 0, [], []⟩
    have hg : ∀ i, i < len → W.cells? 0 (a.add (i * 2)) 2 = some (hpCells (g i)) ∧ (g i).Ok W := by
      intro i hil
      have := Classical.choose_spec (hone' i hil)
      simpa [g, hil] using this
    have hlen : ((List.range len).map g).length = len := by simp
    have hok : ∀ x ∈ (List.range len).map g, x.Ok W := by
      intro x hx
      obtain ⟨i, hi', rfl⟩ := List.mem_map.1 hx
      exact (hg i (List.mem_range.1 hi')).2
    refine ⟨some a, _, (List.range len).map g, by rw [hlen], by omega, ⟨?_, fun x hx => (hok x hx).at_⟩, hok⟩
    obtain ⟨b, off, spot⟩ := a
    have hcell : ∀ i, i < len → ∀ j (hj : j < 2), W.cell? ((⟨b, off, spot⟩ : Addr).add (i * 2 + j)) = some ((hpCells (g i))[j]'(by rw [hpCells_length]; exact hj)) := by
      intro i hil j hj
      obtain ⟨_, _, hat⟩ := World.cells?_some (hg i hil).1
      have := hat j hj
      rw [Go.Deep.add_add] at this
      rw [this, List.getElem?_eq_getElem (by rw [hpCells_length]; exact hj)]
    intro k x hx
    have hk : k < len * 2 := by
      have := (List.getElem?_eq_some_iff.1 hx).1
      rwa [fl_length hpCells_length, hlen] at this
    have hspot : spot = none := by
      have := World.cell?_spot (hcell 0 (by omega) 0 (by omega))
      simpa [Addr.add] using this
    subst hspot
    have hk5 : k / 2 * 2 + k % 2 = k := by omega
    have hm5 : k % 2 < 2 := Nat.mod_lt _ (by omega)
    refine ⟨b, off, rfl, ?_, ?_⟩
    · refine hlt (.cell b (off + 0)) ?_
      exact List.mem_append_left _ (MemPlace.mem_row.2 ⟨0, by rw [hC]; omega, by simp⟩)
    · have h1 := hcell (k / 2) (by omega) (k % 2) hm5
      rw [hk5, add_plain] at h1
      rw [h1]
      rw [← hk5, fl_at hpCells_length _ (k / 2) (by rw [hlen]; omega) (k % 2) hm5, List.getElem?_eq_getElem (by rw [hpCells_length]; exact hm5)] at hx
      simpa using hx

/-- An argument that is a state, opened. -/
theorem open_state {r : Reach} {b0 : Nat} {v : Value} {d : DataW H} {p : List MemPlace} {s : TypeId} {f0 f1 : Field} (hst : P.underlying s = some (.struct #[f0, f1])) (hCs : P.cellsOf s = 3) (hoff : (f0.offset, f1.offset) = (0, 1)) (hcs : (P.cellsOf f0.type, P.cellsOf f1.type) = (1, 2)) (hf0 : P.underlying f0.type = some (.int .i64))
    (hs : P.underlying f1.type = some (.struct #[q0, q1])) (hone : oneCellFields P #[q0, q1] = true)
    (hq0 : P.underlying q0.type = some (.slice e)) (hq1 : P.underlying q1.type = some (.slice e)) (he : P.underlying e = some (.int .i64)) (hce : P.cellsOf e = 1) (hlt : ∀ x ∈ p, x.block < W.heap.size)
    (hv : Value.okWide P W r b0 s v) (h : DataW.Trod enc P W 0 (fun _ => true) true s v d p) :
    ∃ x : Sp, v = spC x.p x.h.a x.h.vs.length x.h.ca x.h.b x.h.zs.length x.h.cb ∧ (-9223372036854775808 ≤ x.p ∧ x.p ≤ 9223372036854775807) ∧ x.h.Ok W := by
  obtain ⟨cs, rfl, hsz⟩ := okWide_struct hst hv
  obtain ⟨fuel, hf⟩ := h
  obtain ⟨y0, y1, n, hx, hl, h0, h1⟩ := trod_struct2 hst hf
  simp only [Prod.mk.injEq] at hoff hcs hx
  obtain ⟨o0, o1⟩ := hoff
  obtain ⟨k0, k1⟩ := hcs
  obtain ⟨_, rfl⟩ := hx
  obtain ⟨c0, c1, c2, rfl⟩ : ∃ c0 c1 c2, cs = #[c0, c1, c2] := by
    have : cs.size = 3 := hsz.trans hCs
    obtain ⟨l⟩ := cs
    match l, this with
    | [c0, c1, c2], _ => exact ⟨c0, c1, c2, rfl⟩
  have e0 : DataW.trod enc P W 0 (fun _ => true) true n f0.type [c0] = some y0 := by simpa [Value.cells, o0, k0] using h0
  have e1 : DataW.trod enc P W 0 (fun _ => true) true n f1.type [c1, c2] = some y1 := by simpa [Value.cells, o1, k1] using h1
  obtain ⟨x0, q, _, w0⟩ := DataW.trod_int hf0 e0
  obtain ⟨x, hx, hok⟩ := open_heap_cells hs hone k1 hq0 hq1 he hce (fun x hx => hlt x (List.mem_append_right _ hx)) e1
  simp only [List.cons.injEq, and_true] at q
  simp only [hpCells, List.cons.injEq, and_true] at hx
  obtain ⟨rfl, rfl⟩ := hx
  subst q
  exact ⟨⟨x0, x⟩, rfl, i64_bounds w0, hok⟩
end
end Go.Proofs.Ytpmmjaceehlpiaa
