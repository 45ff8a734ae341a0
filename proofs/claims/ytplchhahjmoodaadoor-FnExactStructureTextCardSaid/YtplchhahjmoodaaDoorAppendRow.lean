/-
  An append of any row to a row of one's own, as a step of a region.
-/
import Derived.Test.YtplchhahjmoodaaDoorApart
import Derived.Deep.AppendLies
namespace Go.Proofs.YtplchhahjmoodaaDoor
open Go Go.RowKit Go.ChangeShapes Go.WideShapes Go.ChangeAt

theorem own_none {w : World} {base e size n : Nat} {a : Option Addr} {c : Nat} {xs : List Value} (h : w.ownsRow base e size (.slice a n c) n xs) : a = none → c = 0 := by
  intro ha
  rcases h.2 with ⟨hv, _⟩ | ⟨g, cap, cur, hv, _⟩
  · injection hv
  · injection hv with h1
    rw [ha] at h1
    cases h1

/-- A slice that was made empty, and owns its block. -/
theorem empty_own {w : World} {base g : Nat} {e : TypeId} {size : Nat} (h : w.heap[g]? = some (.cells #[] e (0, 0))) (hb : base ≤ g) : w.ownsRow base e size (.slice (some ⟨g, 0, none⟩) 0 0) 0 [] :=
  ⟨by simp, .inr ⟨g, 0, #[], rfl, hb, h, Nat.le_refl _, Nat.zero_le _, by simp, by simp⟩⟩

/-- append(v, xs...) as a step of a region: xs is any row, nil let in. -/
theorem step_append_row {P : Program} {ops : Array Oper} {o : Oper} {act : Act} {K : Act → World → Prop} {Q : Exit → Act → World → Prop} {E : Prop} (w : World) (hgd : o.guard = none) (s x : Operand) (t : TypeId)
    (ho : o.op = .call { callee := .builtin .append, args := #[s, x], argTypes := #[t, t] })
    (base : Nat) (e : TypeId) (i : TypeInfo) (z : Value) (size bytes : Nat) (ht : P.underlying t = some (.slice e)) (hi : P.info? e = some i) (hz : i.zero = some z)
    (hsize : i.size = size) (hby : i.bytes = bytes) (hzs : z.cells.size = size) (hsz : 0 < size)
    (v : Value) (n : Nat) (xs : List Value) (hs : act.eval s = v) (hown : w.ownsRow base e size v n xs)
    (a : Option Addr) (m c : Nat) (news : List Value) (hx : act.eval x = .slice a m c) (hnil : a = none → m = 0 ∧ c = 0) (hl : news.length = m * size) (hnews : ∀ ad, a = some ad → ∀ j u, news[j]? = some u → w.cell? (ad.add j) = some u) (h1 : ∀ u ∈ news, u.oneCell' = true)
    (h63 : n + m ≤ maxLen) (hbytes : (n + m) * bytes ≤ 140737488355328) (hbase : base ≤ w.heap.size)
    (h : ∀ v' w', w'.ownsRow base e size v' (n + m) (xs ++ news) → w.grownBy w' v.ownBlock → (v'.ownBlock = v.ownBlock ∨ v'.ownBlock = some w.heap.size) → Below base w w' → K (act.put o.dst v') w') :
    if Region.wanted o (yielded ops act.tmps) = true then Oper.wp P o act w K Q else E := by
  have hw : Region.wanted o (yielded ops act.tmps) = true := by simp [Region.wanted, hgd]
  rw [if_pos hw]
  cases a with
  | none =>
    obtain ⟨rfl, rfl⟩ := hnil rfl
    have hr := run_append_owned_none (P := P) w base t o.type e i size ht hi v n xs hown
    have hn0 : news = [] := List.eq_nil_of_length_eq_zero (by simpa using hl)
    subst hn0
    unfold Oper.wp execOp
    simp only [ho, resolve, invoke, builtin, Sem.run_bind, Sem.run_pure, Result.andThen_ok, List.map_toArray, List.map_cons, List.map_nil, hs, hx, hr]
    exact h v w (by simpa using hown) ⟨rfl, rfl, rfl, Nat.le_refl _, fun _ _ _ => rfl⟩ (.inl rfl) (Below.refl _ _)
  | some ad =>
    obtain ⟨v', w', hr, h2, h3, _, h5⟩ := run_append_own_at (P := P) w base t o.type e i z size bytes ht hi hz hsize hby hzs hsz v n xs hown ad m c news hl (hnews ad rfl) h1 h63 hbytes hbase
    unfold Oper.wp execOp
    simp only [ho, resolve, invoke, builtin, Sem.run_bind, Sem.run_pure, Result.andThen_ok, List.map_toArray, List.map_cons, List.map_nil, hs, hx, hr]
    exact h v' w' h2 h3 h5 ((Below.refl base w).grown h3 hbase fun k hk => (hown.lt k hk).1)

theorem row_nil {w : World} {B : Nat} {xs : List Value} (h : Row w B none xs) : xs = [] := by
  match xs, h with
  | [], _ => rfl
  | x :: r, h =>
    obtain ⟨b, o, e, _⟩ := h 0 x rfl
    cases e
theorem row_news {w : World} {B : Nat} {a : Option Addr} {xs : List Value} (h : Row w B a xs) : ∀ ad, a = some ad → ∀ j u, xs[j]? = some u → w.cell? (ad.add j) = some u := by
  intro ad ha j u hj
  obtain ⟨b, o, e, _, hc⟩ := h j u hj
  rw [ha] at e
  injection e with e
  rw [e, add_plain]
  exact hc

theorem emp_at {W : World} {g : Nat} {t : TypeId} (h : g = W.heap.size) : (W.alloc (.cells #[] t)).heap[g]? = some (.cells #[] t (0, 0)) := by
  subst h
  exact heap_alloc_new W _
theorem emp_drew {W : World} {g : Nat} {t : TypeId} (h : W.heap[g]? = some (.cells #[] t (0, 0))) : W.drew.heap[g]? = some (.cells #[] t (0, 0)) := h
theorem emp_keep {W : World} {g : Nat} {t : TypeId} (h : W.heap[g]? = some (.cells #[] t (0, 0))) (o : Obj) : (W.alloc o).heap[g]? = some (.cells #[] t (0, 0)) := by
  refine (Below.heap_alloc W o g ?_).trans h
  rcases Nat.lt_or_ge g W.heap.size with h1 | h1
  · exact h1
  · rw [Array.getElem?_eq_none h1] at h; cases h
theorem emp_grown {W W' : World} {g : Nat} {t : TypeId} {r : Option Nat} (h : W.heap[g]? = some (.cells #[] t (0, 0))) (hg : W.grownBy W' r) (hne : some g ≠ r) : W'.heap[g]? = some (.cells #[] t (0, 0)) := by
  refine (hg.block g ?_ hne).trans h
  rcases Nat.lt_or_ge g W.heap.size with h1 | h1
  · exact h1
  · rw [Array.getElem?_eq_none h1] at h; cases h

/-- What the call owned before an append to another row, it owns behind it (an alloc or a draw may lie between). -/
theorem own_after {w W w' : World} {base e size n : Nat} {v : Value} {xs : List Value} {row : Option Nat} (hg : W.grownBy w' row) (h : w.ownsRow base e size v n xs) (hne : ∀ k, v.ownBlock = some k → some k ≠ row) (hb : Below w.heap.size w W := by first | exact Below.refl _ _ | exact Below.drew (Below.refl _ _) | exact (Below.refl _ _).alloc (Nat.le_refl _) _) : w'.ownsRow base e size v n xs :=
  own_other (own_keeps h hb) hg hne
end Go.Proofs.YtplchhahjmoodaaDoor
