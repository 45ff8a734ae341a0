/-
  A formula among the arguments, opened: the tree that it is. Nothing here knows of the program's text.
-/
import Derived.Test.YthhhmlohfhioeaaDoorTree
import Derived.Deep.Slices
namespace Go.Proofs.YthhhmlohfhioeaaDoor
open Go Go.Joins Go.ChangeShapes Go.WideShapes Go.ChangeAt Go.RowKit Go.Deep

theorem choose_list {α : Type} {len : Nat} {p : Nat → α → Prop} (h : ∀ i, i < len → ∃ z, p i z) : ∃ l : List α, l.length = len ∧ ∀ i (hi : i < l.length), p i l[i] := by
  induction len with
  | zero => exact ⟨[], rfl, fun i hi => by simp at hi⟩
  | succ n ih =>
    obtain ⟨l, hl, hp⟩ := ih fun i hi => h i (by omega)
    obtain ⟨z, hz⟩ := h n (by omega)
    refine ⟨l ++ [z], by simp [hl], fun i hi => ?_⟩
    rw [List.length_append, List.length_singleton] at hi
    rcases Nat.lt_or_ge i l.length with h1 | h1
    · rw [List.getElem_append_left h1]
      exact hp i h1
    · have : i = l.length := by omega
      subst this
      rw [List.getElem_append_right (Nat.le_refl _)]
      simp only [Nat.sub_self, List.getElem_cons_zero]
      rw [hl]
      exact hz

section
variable {H : Type} {enc : TypeId × Value → H} {P : Program} {W : World} {t u e : TypeId} {f0 f1 f2 f3 f4 : Field}
theorem open_fm_cells (hs : P.underlying t = some (.struct #[f0, f1, f2, f3, f4])) (hC : P.cellsOf t = 5) (hoff : (f0.offset, f1.offset, f2.offset, f3.offset, f4.offset) = (0, 1, 2, 3, 4))
    (hcs : (P.cellsOf f0.type, P.cellsOf f1.type, P.cellsOf f2.type, P.cellsOf f3.type, P.cellsOf f4.type) = (1, 1, 1, 1, 1))
    (h0 : P.underlying f0.type = some (.int .i64)) (h1 : P.underlying f1.type = some (.int .i64)) (h2 : P.underlying f2.type = some (.int .i64)) (h3 : P.underlying f3.type = some (.int .i64)) (h4 : P.underlying f4.type = some (.slice t)) :
    ∀ (fuel : Nat) (cs : List Value) (y : DataW H × List MemPlace), DataW.trod enc P W 0 (fun _ => true) true fuel t cs = some y → (∀ x ∈ y.2, x.block < W.heap.size) → ∃ x : Ft, cs = x.cells ∧ x.In W W.heap.size ∧ x.Short ∧ x.er.Ok := by
  intro fuel
  induction fuel using Nat.strongRecOn with
  | _ fuel ih =>
  intro cs y h hlt
  simp only [Prod.mk.injEq] at hoff hcs
  obtain ⟨o0, o1, o2, o3, o4⟩ := hoff
  obtain ⟨c0, c1, c2, c3, c4⟩ := hcs
  obtain ⟨xs, n, rfl, rfl, hlen, hxl, hg⟩ := DataW.trod_struct hs h
  rw [hC] at hlen
  match cs, hlen, xs, hxl with
  | [s0, s1, s2, s3, s4], _, [y0, y1, y2, y3, y4], _ =>
    have e0 := hg 0 f0 rfl
    have e1 := hg 1 f1 rfl
    have e2 := hg 2 f2 rfl
    have e3 := hg 3 f3 rfl
    have e4 := hg 4 f4 rfl
    rw [o0, c0] at e0
    rw [o1, c1] at e1
    rw [o2, c2] at e2
    rw [o3, c3] at e3
    rw [o4, c4] at e4
    simp only [List.drop, List.take] at e0 e1 e2 e3 e4
    obtain ⟨a0, q0, _, w0⟩ := DataW.trod_int h0 (e0.trans rfl)
    obtain ⟨a1, q1, _, w1⟩ := DataW.trod_int h1 (e1.trans rfl)
    obtain ⟨a2, q2, _, w2⟩ := DataW.trod_int h2 (e2.trans rfl)
    obtain ⟨a3, q3, _, w3⟩ := DataW.trod_int h3 (e3.trans rfl)
    simp only [List.cons.injEq, and_true] at q0 q1 q2 q3
    subst q0 q1 q2 q3
    have hlt4 : ∀ x ∈ y4.2, x.block < W.heap.size := fun x hx => hlt x (by simp [hx])
    rcases DataW.trod_slice h4 (e4.trans rfl) with ⟨hcs, _⟩ | ⟨a, len, cap, elems, rest, n', rfl, hcs, hy, _, hl, hm, hel, hget, _, _⟩
    · simp only [List.cons.injEq, and_true] at hcs
      subst hcs
      refine ⟨.mk a0 a1 a2 a3 none 0 [], rfl, (Ft.in_iff _).2 ⟨Row.nil_, fun x hx => by cases hx⟩, (Ft.short_iff _).2 ⟨Nat.zero_le _, fun x hx => by cases hx⟩, (Fm.ok_iff _).2 ⟨⟨i64_bounds w0, i64_bounds w1, i64_bounds w2, i64_bounds w3⟩, fun x hx => by cases hx⟩⟩
    · simp only [List.cons.injEq, and_true] at hcs
      subst hcs
      rw [hC] at hget hy
      have hone : ∀ i, i < len → ∃ z : Ft, W.cells? 0 (a.add (i * 5)) 5 = some z.cells ∧ z.In W W.heap.size ∧ z.Short ∧ z.er.Ok := by
        intro i hil
        have h5 := hget i hil
        rw [List.getElem?_eq_getElem (by omega)] at h5
        obtain ⟨cs', hc, ht'⟩ := Option.bind_eq_some_iff.1 h5
        obtain ⟨z, rfl, hz⟩ := ih n' (by omega) cs' _ ht' fun x hx => hlt4 x (by
          rw [hy]
          exact List.mem_append_right _ (List.mem_flatMap.2 ⟨_, List.mem_append_left _ (List.getElem_mem (by omega)), hx⟩))
        exact ⟨z, hc, hz⟩
      obtain ⟨ts, htl, hts⟩ := choose_list hone
      have hall : ∀ x ∈ ts, x.In W W.heap.size ∧ x.Short ∧ x.er.Ok := fun x hx => by
        obtain ⟨i, hi, rfl⟩ := List.mem_iff_getElem.1 hx
        exact (hts i hi).2
      have hrow : Row W W.heap.size (some a) (fmVals ts) := by
        obtain ⟨b, off, spot⟩ := a
        have hcell : ∀ i (hi : i < ts.length), ∀ j (hj : j < 5), W.cell? ((⟨b, off, spot⟩ : Addr).add (i * 5 + j)) = some ((ts[i]).cells[j]'(by rw [Ft.cells_length]; exact hj)) := by
          intro i hil j hj
          obtain ⟨_, _, hat⟩ := World.cells?_some (hts i hil).1
          have := hat j hj
          rw [Go.Deep.add_add] at this
          rw [this, List.getElem?_eq_getElem (by rw [Ft.cells_length]; exact hj)]
        intro k x hx
        have hk : k < ts.length * 5 := by
          have := (List.getElem?_eq_some_iff.1 hx).1
          rwa [fmVals_length] at this
        have hspot : spot = none := by
          have := World.cell?_spot (hcell 0 (by omega) 0 (by omega))
          simpa [Addr.add] using this
        subst hspot
        have hk5 : k / 5 * 5 + k % 5 = k := by omega
        have hm5 : k % 5 < 5 := Nat.mod_lt _ (by omega)
        have hd : k / 5 < ts.length := by omega
        refine ⟨b, off, rfl, ?_, ?_⟩
        · refine hlt4 (.cell b (off + 0)) ?_
          rw [hy]
          exact List.mem_append_left _ (MemPlace.mem_row.2 ⟨0, by omega, by simp⟩)
        · have h6 := hcell (k / 5) hd (k % 5) hm5
          rw [hk5, add_plain] at h6
          rw [h6]
          rw [← hk5, fmVals_at ts (k / 5) hd (k % 5) hm5, List.getElem?_eq_getElem (by rw [Ft.cells_length]; exact hm5)] at hx
          exact hx
      refine ⟨.mk a0 a1 a2 a3 (some a) cap ts, by simp [Ft.cells, Ft.kd, Ft.k, Ft.u, Ft.v, Ft.a, Ft.cap, Ft.args, htl], (Ft.in_iff _).2 ⟨hrow, fun x hx => (hall x hx).1⟩, (Ft.short_iff _).2 ⟨by show ts.length ≤ maxLen; omega, fun x hx => (hall x hx).2.1⟩, (Fm.ok_iff _).2 ⟨?_, fun x hx => ?_⟩⟩
      · rw [Ft.er_eq]
        exact ⟨i64_bounds w0, i64_bounds w1, i64_bounds w2, i64_bounds w3⟩
      · rw [Ft.er_args] at hx
        obtain ⟨z, hz, rfl⟩ := List.mem_map.1 hx
        exact (hall z hz).2.2
theorem open_formula {r : Reach} {b0 : Nat} {v : Value} {d : DataW H} {p : List MemPlace} (hs : P.underlying t = some (.struct #[f0, f1, f2, f3, f4])) (hC : P.cellsOf t = 5) (hoff : (f0.offset, f1.offset, f2.offset, f3.offset, f4.offset) = (0, 1, 2, 3, 4))
    (hcs : (P.cellsOf f0.type, P.cellsOf f1.type, P.cellsOf f2.type, P.cellsOf f3.type, P.cellsOf f4.type) = (1, 1, 1, 1, 1))
    (h0 : P.underlying f0.type = some (.int .i64)) (h1 : P.underlying f1.type = some (.int .i64)) (h2 : P.underlying f2.type = some (.int .i64)) (h3 : P.underlying f3.type = some (.int .i64)) (h4 : P.underlying f4.type = some (.slice t)) (hlt : ∀ x ∈ p, x.block < W.heap.size)
    (hv : Value.okWide P W r b0 t v) (h : DataW.Trod enc P W 0 (fun _ => true) true t v d p) : ∃ x : Ft, v = x.val ∧ x.In W W.heap.size ∧ x.Short ∧ x.er.Ok := by
  obtain ⟨cs, rfl, hsz⟩ := okWide_struct hs hv
  obtain ⟨fuel, hf⟩ := h
  obtain ⟨x, hx, hr⟩ := open_fm_cells hs hC hoff hcs h0 h1 h2 h3 h4 fuel _ _ hf hlt
  refine ⟨x, ?_, hr⟩
  have : cs = x.cells.toArray := by
    rw [← hx]
    simp [Value.cells]
  rw [this, Ft.val_cells]
end
end Go.Proofs.YthhhmlohfhioeaaDoor
