/-
  Several texts of one proof in one file, in the order in which they build.
-/
import Derived.Deep.AppendLies
import Derived.Maps.AppendAt
import Derived.Deep.Slices
import Derived.Lib.SmallJoins
import Derived.Test.YtglcailcdcpadaaGreatDoorZ03
import Derived.Test.YtglcailcdcpadaaGreatDoorZ04
/-
  An append of any row to a row of one's own, as a step of a region.
-/
namespace Go.Proofs.YtglcailcdcpadaaGreatDoor
open Go Go.RowKit Go.ChangeShapes Go.WideShapes Go.ChangeAt

theorem own_none {w : World} {base e size n : Nat} {a : Option Addr} {c : Nat} {xs : List Value} (h : w.ownsRow base e size (.slice a n c) n xs) : a = none → c = 0 := by
  intro ha
  rcases h.2 with ⟨hv, _⟩ | ⟨g, cap, cur, hv, _⟩
  · injection hv
  · injection hv with h1
    rw [ha] at h1
    cases h1

/-- A slice that was made empty, and owns its block. -/
theorem empty_own {w : World} {base g : Nat} {e : TypeId} {size : Nat} (h : w.heap[g]? = some (.cells #[] e (0, 0))) (hb : base ≤ g) : w.ownsRow base e size (.slice (some ⟨g, 0, none⟩) 0 0) 0 [] :=
  ⟨by simp, .inr ⟨g, 0, #[], rfl, hb, h, Nat.le_refl _, Nat.zero_le _, by simp, by simp⟩⟩

/-- append(v, xs...) as a step of a region: xs is any row, nil let in. -/
theorem step_append_row {P : Program} {ops : Array Oper} {o : Oper} {act : Act} {K : Act → World → Prop} {Q : Exit → Act → World → Prop} {E : Prop} (w : World) (hgd : o.guard = none) (s x : Operand) (t : TypeId)
    (ho : o.op = .call { callee := .builtin .append, args := #[s, x], argTypes := #[t, t] })
    (base : Nat) (e : TypeId) (i : TypeInfo) (z : Value) (size bytes : Nat) (ht : P.underlying t = some (.slice e)) (hi : P.info? e = some i) (hz : i.zero = some z)
    (hsize : i.size = size) (hby : i.bytes = bytes) (hzs : z.cells.size = size) (hsz : 0 < size)
    (v : Value) (n : Nat) (xs : List Value) (hs : act.eval s = v) (hown : w.ownsRow base e size v n xs)
    (a : Option Addr) (m c : Nat) (news : List Value) (hx : act.eval x = .slice a m c) (hnil : a = none → m = 0 ∧ c = 0) (hl : news.length = m * size) (hnews : ∀ ad, a = some ad → ∀ j u, news[j]? = some u → w.cell? (ad.add j) = some u) (h1 : ∀ u ∈ news, u.oneCell' = true)
    (h63 : n + m ≤ maxLen) (hbytes : (n + m) * bytes ≤ 140737488355328) (hbase : base ≤ w.heap.size)
    (h : ∀ v' w', w'.ownsRow base e size v' (n + m) (xs ++ news) → w.grownBy w' v.ownBlock → (v'.ownBlock = v.ownBlock ∨ v'.ownBlock = some w.heap.size) → Below base w w' → K (act.put o.dst v') w') :
    if Region.wanted o (yielded ops act.tmps) = true then Oper.wp P o act w K Q else E := by
  have hw : Region.wanted o (yielded ops act.tmps) = true := by simp [Region.wanted, hgd]
  rw [if_pos hw]
  cases a with
  | none =>
    obtain ⟨rfl, rfl⟩ := hnil rfl
    have hr := run_append_owned_none (P := P) w base t o.type e i size ht hi v n xs hown
    have hn0 : news = [] := List.eq_nil_of_length_eq_zero (by simpa using hl)
    subst hn0
    unfold Oper.wp execOp
    simp only [ho, resolve, invoke, builtin, Sem.run_bind, Sem.run_pure, Result.andThen_ok, List.map_toArray, List.map_cons, List.map_nil, hs, hx, hr]
    exact h v w (by simpa using hown) ⟨rfl, rfl, rfl, Nat.le_refl _, fun _ _ _ => rfl⟩ (.inl rfl) (Below.refl _ _)
  | some ad =>
    obtain ⟨v', w', hr, h2, h3, _, h5⟩ := run_append_own_at (P := P) w base t o.type e i z size bytes ht hi hz hsize hby hzs hsz v n xs hown ad m c news hl (hnews ad rfl) h1 h63 hbytes hbase
    unfold Oper.wp execOp
    simp only [ho, resolve, invoke, builtin, Sem.run_bind, Sem.run_pure, Result.andThen_ok, List.map_toArray, List.map_cons, List.map_nil, hs, hx, hr]
    exact h v' w' h2 h3 h5 ((Below.refl base w).grown h3 hbase fun k hk => (hown.lt k hk).1)

/-- .. as a step of a walk. -/
theorem wpList_append_rowR {P : Program} (w : World) {ops : Array Oper} {rest : List Oper} {o : Oper} {a : Act} {Q : Exit → Act → World → Prop} (hgd : o.guard = none) (s x : Operand) (t : TypeId)
    (ho : o.op = .call { callee := .builtin .append, args := #[s, x], argTypes := #[t, t] })
    (base : Nat) (e : TypeId) (i : TypeInfo) (z : Value) (size bytes : Nat) (ht : P.underlying t = some (.slice e)) (hi : P.info? e = some i) (hz : i.zero = some z)
    (hsize : i.size = size) (hby : i.bytes = bytes) (hzs : z.cells.size = size) (hsz : 0 < size)
    (v : Value) (n : Nat) (xs : List Value) (hs : a.eval s = v) (hown : w.ownsRow base e size v n xs)
    (ad : Option Addr) (m c : Nat) (news : List Value) (hx : a.eval x = .slice ad m c) (hnil : ad = none → m = 0 ∧ c = 0) (hl : news.length = m * size) (hnews : ∀ b, ad = some b → ∀ j u, news[j]? = some u → w.cell? (b.add j) = some u) (h1 : ∀ u ∈ news, u.oneCell' = true)
    (h63 : n + m ≤ maxLen) (hbytes : (n + m) * bytes ≤ 140737488355328) (hbase : base ≤ w.heap.size)
    (h : ∀ v' w', w'.ownsRow base e size v' (n + m) (xs ++ news) → w.grownBy w' v.ownBlock → (v'.ownBlock = v.ownBlock ∨ v'.ownBlock = some w.heap.size) → wpList P ops Q rest (a.put o.dst v') w') :
    wpList P ops Q (o :: rest) a w := by
  cases ad with
  | none =>
    obtain ⟨rfl, rfl⟩ := hnil rfl
    have hr := run_append_owned_none (P := P) w base t o.type e i size ht hi v n xs hown
    have hn0 : news = [] := List.eq_nil_of_length_eq_zero (by simpa using hl)
    subst hn0
    refine wpList_plain hgd fun K hK => ?_
    unfold Oper.wp execOp
    simp only [ho, resolve, invoke, builtin, Sem.run_bind, Sem.run_pure, Result.andThen_ok, List.map_toArray, List.map_cons, List.map_nil, hs, hx, hr]
    exact hK _ _ (h v w (by simpa using hown) ⟨rfl, rfl, rfl, Nat.le_refl _, fun _ _ _ => rfl⟩ (.inl rfl))
  | some b =>
    exact wpList_append_own_at w hgd s x t ho base e i z size bytes ht hi hz hsize hby hzs hsz v n xs hs hown b m c news hx hl (hnews b rfl) h1 h63 hbytes hbase fun v' w' h2 h3 _ h5 => h v' w' h2 h3 h5
theorem row_nil {w : World} {B : Nat} {xs : List Value} (h : Row w B none xs) : xs = [] := by
  match xs, h with
  | [], _ => rfl
  | x :: r, h =>
    obtain ⟨b, o, e, _⟩ := h 0 x rfl
    cases e
theorem row_news {w : World} {B : Nat} {a : Option Addr} {xs : List Value} (h : Row w B a xs) : ∀ ad, a = some ad → ∀ j u, xs[j]? = some u → w.cell? (ad.add j) = some u := by
  intro ad ha j u hj
  obtain ⟨b, o, e, _, hc⟩ := h j u hj
  rw [ha] at e
  injection e with e
  rw [e, add_plain]
  exact hc

theorem emp_at {W : World} {g : Nat} {t : TypeId} (h : g = W.heap.size) : (W.alloc (.cells #[] t)).heap[g]? = some (.cells #[] t (0, 0)) := by
  subst h
  exact heap_alloc_new W _
theorem emp_drew {W : World} {g : Nat} {t : TypeId} (h : W.heap[g]? = some (.cells #[] t (0, 0))) : W.drew.heap[g]? = some (.cells #[] t (0, 0)) := h
theorem emp_keep {W : World} {g : Nat} {t : TypeId} (h : W.heap[g]? = some (.cells #[] t (0, 0))) (o : Obj) : (W.alloc o).heap[g]? = some (.cells #[] t (0, 0)) := by
  refine (Below.heap_alloc W o g ?_).trans h
  rcases Nat.lt_or_ge g W.heap.size with h1 | h1
  · exact h1
  · rw [Array.getElem?_eq_none h1] at h; cases h
theorem emp_grown {W W' : World} {g : Nat} {t : TypeId} {r : Option Nat} (h : W.heap[g]? = some (.cells #[] t (0, 0))) (hg : W.grownBy W' r) (hne : some g ≠ r) : W'.heap[g]? = some (.cells #[] t (0, 0)) := by
  refine (hg.block g ?_ hne).trans h
  rcases Nat.lt_or_ge g W.heap.size with h1 | h1
  · exact h1
  · rw [Array.getElem?_eq_none h1] at h; cases h

/-- What the call owned before an append to another row, it owns behind it (an alloc or a draw may lie between). -/
theorem own_after {w W w' : World} {base e size n : Nat} {v : Value} {xs : List Value} {row : Option Nat} (hg : W.grownBy w' row) (h : w.ownsRow base e size v n xs) (hne : ∀ k, v.ownBlock = some k → some k ≠ row) (hb : Below w.heap.size w W := by first | exact Below.refl _ _ | exact Below.drew (Below.refl _ _) | exact (Below.refl _ _).alloc (Nat.le_refl _) _) : w'.ownsRow base e size v n xs :=
  own_other (own_keeps h hb) hg hne
end Go.Proofs.YtglcailcdcpadaaGreatDoor
/-
  Rows of structs that hold heaps: each with where its rows lie and what they hold. Nothing here knows of the program's text.
-/
namespace Go.Proofs.YtglcailcdcpadaaGreatDoor
open Go Go.RowKit

/-- Rows whose elements take s cells each. -/
def fl {α : Type} (c : α → List Value) (xs : List α) : List Value := xs.flatMap c
section
variable {α : Type} {c : α → List Value} {s : Nat}
theorem fl_nil : fl c [] = [] := rfl
theorem fl_cons (x : α) (xs : List α) : fl c (x :: xs) = c x ++ fl c xs := rfl
theorem fl_append (xs ys : List α) : fl c (xs ++ ys) = fl c xs ++ fl c ys := by simp [fl]
theorem fl_snoc (xs : List α) (x : α) : fl c (xs ++ [x]) = fl c xs ++ c x := by simp [fl]
theorem fl_length (hc : ∀ x, (c x).length = s) : ∀ xs : List α, (fl c xs).length = xs.length * s
  | [] => by simp [fl]
  | x :: xs => by rw [fl_cons, List.length_append, fl_length hc xs, hc, List.length_cons, Nat.add_mul, Nat.one_mul, Nat.add_comm]
theorem fl_at (hc : ∀ x, (c x).length = s) : ∀ (xs : List α) (i : Nat) (h : i < xs.length) (j : Nat), j < s → (fl c xs)[i * s + j]? = (c xs[i])[j]?
  | x :: xs, 0, _, j, hj => by
    rw [fl_cons, List.getElem?_append_left (by rw [hc]; omega)]
    simp
  | x :: xs, i + 1, h, j, hj => by
    have h' : i < xs.length := by simpa using h
    rw [fl_cons, List.getElem?_append_right (by rw [hc, Nat.add_mul]; omega), hc, show (i + 1) * s + j - s = i * s + j by rw [Nat.add_mul]; omega, fl_at hc xs i h' j hj]
    simp
theorem fl_take (hc : ∀ x, (c x).length = s) : ∀ (xs : List α) (k : Nat), (fl c xs).take (k * s) = fl c (xs.take k)
  | [], k => by simp [fl]
  | x :: xs, 0 => by simp [fl]
  | x :: xs, k + 1 => by
    rw [fl_cons, List.take_succ_cons, fl_cons, List.take_append, hc, show (k + 1) * s - s = k * s by rw [Nat.add_mul]; omega, fl_take hc xs k, List.take_of_length_le (by rw [hc, Nat.add_mul]; omega)]
/-- An element's cells in a row that is read. -/
theorem Row.item {w : World} {B : Nat} {a : Option Addr} {xs : List α} (hc : ∀ x, (c x).length = s) (hs : 0 < s) (h : Row w B a (fl c xs)) (i : Nat) (hi : i < xs.length) :
    ∃ b o, a = some ⟨b, o, none⟩ ∧ b < B ∧ ∀ j u, (c xs[i])[j]? = some u → w.cell? ⟨b, o + (i * s + j), none⟩ = some u := by
  have g := fun j (hj : j < s) => h (i * s + j) _ ((fl_at hc xs i hi j hj).trans (List.getElem?_eq_getElem (by rw [hc]; exact hj)))
  obtain ⟨b, o, rfl, hb, _⟩ := g 0 hs
  refine ⟨b, o, rfl, hb, fun j u hu => ?_⟩
  obtain ⟨hj, rfl⟩ := List.getElem?_eq_some_iff.1 hu
  obtain ⟨b', o', e, _, hcell⟩ := g j (by rw [hc] at hj; exact hj)
  injection e with e
  injection e with e1 e2 _
  subst e1 e2
  exact hcell
end

/-- A heap: where its two rows lie, and what they hold. -/
structure Hp where
  a : Option Addr
  ca : Nat
  b : Option Addr
  cb : Nat
  vs : List Int
  zs : List Int
/-- What a heap holds. -/
def Hp.body (x : Hp) : List Int × List Int := (x.vs, x.zs)
/-- The blocks of a heap. -/
def Hp.has (x : Hp) (k : Nat) : Prop := (Value.slice x.a x.vs.length x.ca).ownBlock = some k ∨ (Value.slice x.b x.zs.length x.cb).ownBlock = some k
abbrev Hp.v (x : Hp) : Value := heV x.a x.vs.length x.ca x.b x.zs.length x.cb
def hpCells (x : Hp) : List Value := [.slice x.a x.vs.length x.ca, .slice x.b x.zs.length x.cb]
theorem hpCells_length (x : Hp) : (hpCells x).length = 2 := rfl
abbrev hpVals (hs : List Hp) : List Value := fl hpCells hs
def Hp.At (W : World) (x : Hp) : Prop := HeapAt W x.a x.b x.vs x.zs
def Hp.In (lo hi : Nat) (W : World) (x : Hp) : Prop := HeapIn lo hi W x.a x.ca x.b x.cb (intVals x.vs) (intVals x.zs)
theorem Hp.In.at_ {lo hi : Nat} {W : World} {x : Hp} (h : x.In lo hi W) : x.At W := HeapIn.rows h
theorem Hp.At.below {W W' : World} {x : Hp} (h : x.At W) (hb : Below W.heap.size W W') : x.At W' := HeapAt.below h hb (Nat.le_refl _)
theorem Hp.In.has_lt {lo hi : Nat} {W : World} {x : Hp} (h : x.In lo hi W) {k : Nat} (hk : x.has k) : lo ≤ k ∧ k < hi := by
  rcases hk with hk | hk
  · exact ⟨(h.v.2.1.lt k (by rw [intVals_length]; exact hk)).1, h.v.2.2 k (by rw [intVals_length]; exact hk)⟩
  · exact ⟨(h.z.2.1.lt k (by rw [intVals_length]; exact hk)).1, h.z.2.2 k (by rw [intVals_length]; exact hk)⟩

def hpSize (x : Hp) : Nat := x.vs.length + x.zs.length
def hpTotal (hs : List Hp) : Nat := (hs.map hpSize).sum
theorem hpTotal_next (hs : List Hp) (k : Nat) (h : k < hs.length) : hpTotal (hs.take (k + 1)) = hpTotal (hs.take k) + hpSize hs[k] := by
  unfold hpTotal
  rw [take_next hs k h, List.map_append, List.sum_append, List.map_cons, List.map_nil, List.sum_cons, List.sum_nil, Nat.add_zero]
theorem hpTotal_take : ∀ (hs : List Hp) (k : Nat), hpTotal (hs.take k) ≤ hpTotal hs
  | [], k => by simp [hpTotal]
  | x :: hs, 0 => by simp [hpTotal]
  | x :: hs, k + 1 => by
    have := hpTotal_take hs k
    simp only [hpTotal, List.take_succ_cons, List.map_cons, List.sum_cons] at *
    omega
/-- A row of heaps that may be read. -/
structure HeapsAt (W : World) (a : Option Addr) (hs : List Hp) : Prop where
  row : Row W W.heap.size a (hpVals hs)
  each : ∀ x ∈ hs, x.At W
theorem HeapsAt.below {W W' : World} {a : Option Addr} {hs : List Hp} (h : HeapsAt W a hs) (hb : Below W.heap.size W W') : HeapsAt W' a hs :=
  ⟨(h.row.below hb).grow hb.size, fun x hx => (h.each x hx).below hb⟩

section
variable {lo hi : Nat} {W W' : World} {x : Hp} {hs : List Hp}
theorem OwnIn.same {e size n : Nat} {v : Value} {xs : List Value} (h : OwnIn lo hi W e size v n xs) (hz : W.heap.size ≤ W'.heap.size) (hb : ∀ k, v.ownBlock = some k → W'.heap[k]? = W.heap[k]?) : OwnIn lo hi W' e size v n xs := by
  refine ⟨Nat.le_trans h.1 hz, ⟨h.2.1.1, h.2.1.2.imp id ?_⟩, h.2.2⟩
  rintro ⟨g, cap, cur, rfl, hl, hgc, r⟩
  exact ⟨g, cap, cur, rfl, hl, (hb g rfl).trans hgc, r⟩
theorem Hp.In.same (h : x.In lo hi W) (hz : W.heap.size ≤ W'.heap.size) (hb : ∀ k, x.has k → W'.heap[k]? = W.heap[k]?) : x.In lo hi W' :=
  ⟨OwnIn.same h.v hz fun k hk => hb k (.inl (by rw [intVals_length] at hk; exact hk)), OwnIn.same h.z hz fun k hk => hb k (.inr (by rw [intVals_length] at hk; exact hk)), h.apart⟩
theorem Hp.In.mono {lo' hi' : Nat} (h : x.In lo hi W) (h1 : lo' ≤ lo) (h2 : hi ≤ hi') (h3 : hi' ≤ W.heap.size) : x.In lo' hi' W := HeapIn.mono h h1 h2 h3
/-- Heaps that calls made: their rows may be written, and no two share a block. -/
structure HeapsIn (lo : Nat) (W : World) (hs : List Hp) : Prop where
  each : ∀ x ∈ hs, x.In lo W.heap.size W
  apart : hs.Pairwise fun x y => ∀ k, x.has k → ¬ y.has k
theorem HeapsIn.nil : HeapsIn lo W [] := ⟨fun x hx => by simp at hx, List.Pairwise.nil⟩
theorem HeapsIn.same (h : HeapsIn lo W hs) (hz : W.heap.size ≤ W'.heap.size) (hb : ∀ x ∈ hs, ∀ k, x.has k → W'.heap[k]? = W.heap[k]?) : HeapsIn lo W' hs :=
  ⟨fun x hx => ((h.each x hx).same hz (hb x hx)).mono (Nat.le_refl _) hz (Nat.le_refl _), h.apart⟩
theorem HeapsIn.has_lt (h : HeapsIn lo W hs) (hx : x ∈ hs) {k : Nat} (hk : x.has k) : lo ≤ k ∧ k < W.heap.size := (h.each x hx).has_lt hk
theorem HeapsIn.below (h : HeapsIn lo W hs) (hb : Below W.heap.size W W') : HeapsIn lo W' hs := h.same hb.size fun _ hx k hk => hb.block k (h.has_lt hx hk).2
theorem HeapsIn.mono {lo' : Nat} (h : HeapsIn lo W hs) (h1 : lo' ≤ lo) : HeapsIn lo' W hs := ⟨fun x hx => (h.each x hx).mono h1 (Nat.le_refl _) (Nat.le_refl _), h.apart⟩
theorem HeapsIn.snoc (h : HeapsIn lo W hs) (hx : x.In lo W.heap.size W) (hn : ∀ y ∈ hs, ∀ k, y.has k → ¬ x.has k) : HeapsIn lo W (hs ++ [x]) := by
  refine ⟨fun y hy => ?_, ?_⟩
  · rcases List.mem_append.1 hy with hy | hy
    · exact h.each y hy
    · rw [List.mem_singleton.1 hy]
      exact hx
  · rw [List.pairwise_append]
    exact ⟨h.apart, List.pairwise_singleton _ _, fun y hy z hz k hk => by rw [List.mem_singleton.1 hz]; exact hn y hy k hk⟩
theorem HeapsIn.at_ (h : HeapsIn lo W hs) (hx : x ∈ hs) : x.At W := (h.each x hx).at_
/-- One of the heaps is written: the others stay. -/
theorem HeapsIn.set (h : HeapsIn lo W hs) {i : Nat} (hi : i < hs.length) {y : Hp} (hz : W.heap.size ≤ W'.heap.size) (hb : ∀ k, k < W.heap.size → ¬ hs[i].has k → W'.heap[k]? = W.heap[k]?) (hy : y.In lo W'.heap.size W') (hh : ∀ k, y.has k → hs[i].has k) : HeapsIn lo W' (hs.set i y) := by
  have hp := List.pairwise_iff_getElem.1 h.apart
  have hne : ∀ j (hj : j < hs.length), j ≠ i → ∀ k, hs[j].has k → ¬ hs[i].has k := by
    intro j hj hji k hk hki
    rcases Nat.lt_or_gt_of_ne hji with hlt | hgt
    · exact hp j i hj hi hlt k hk hki
    · exact hp i j hi hj hgt k hki hk
  refine ⟨fun x hx => ?_, ?_⟩
  · obtain ⟨j, hj, rfl⟩ := List.getElem_of_mem hx
    rw [List.length_set] at hj
    rw [List.getElem_set]
    by_cases hij : i = j
    · rw [if_pos hij]
      exact hy
    · rw [if_neg hij]
      have hm : hs[j] ∈ hs := List.getElem_mem hj
      exact ((h.each _ hm).same hz fun k hk => hb k (h.has_lt hm hk).2 (hne j hj (Ne.symm hij) k hk)).mono (Nat.le_refl _) hz (Nat.le_refl _)
  · rw [List.pairwise_iff_getElem]
    intro p q hp' hq' hpq k
    rw [List.length_set] at hp' hq'
    rw [List.getElem_set, List.getElem_set]
    by_cases h1 : i = p
    · rw [if_pos h1, if_neg (by omega)]
      intro hk hk2
      exact hne q hq' (by omega) k hk2 (hh k hk)
    · rw [if_neg h1]
      by_cases h2 : i = q
      · rw [if_pos h2]
        intro hk hk2
        exact hne p hp' (by omega) k hk (hh k hk2)
      · rw [if_neg h2]
        exact hp p q hp' hq' hpq k
theorem Hp.In.store {b i : Nat} {u : Value} (h : x.In lo hi W) (hb : b < lo) : x.In lo hi (W.setCell ⟨b, i, none⟩ u) :=
  h.same (by simp) fun k hk => Below.heap_setCell _ _ _ _ (by have := (h.has_lt hk).1; show k ≠ b; omega)
theorem HeapsIn.store {b i : Nat} {u : Value} (h : HeapsIn lo W hs) (hb : b < lo) : HeapsIn lo (W.setCell ⟨b, i, none⟩ u) hs :=
  h.same (by simp) fun x hx k hk => Below.heap_setCell _ _ _ _ (by have := (h.has_lt hx hk).1; show k ≠ b; omega)
end

/-- Only blocks for which S holds may have turned; new ones may be there. -/
structure Only (S : Nat → Prop) (w w' : World) : Prop where
  os : w'.os = w.os
  tape : w'.tape = w.tape
  output : w'.output = w.output
  size : w.heap.size ≤ w'.heap.size
  block : ∀ k, k < w.heap.size → ¬ S k → w'.heap[k]? = w.heap[k]?
section
variable {S S' : Nat → Prop} {w w' w'' : World}
theorem Only.of_below (h : Below w.heap.size w w') : Only S w w' := ⟨h.os, h.tape, h.output, h.size, fun k hk _ => h.block k hk⟩
theorem Only.refl : Only S w w := Only.of_below (Below.refl _ _)
theorem Only.trans (h : Only S w w') (k : Only S w' w'') : Only S w w'' :=
  ⟨k.os.trans h.os, k.tape.trans h.tape, k.output.trans h.output, Nat.le_trans h.size k.size, fun j hj hd => (k.block j (Nat.lt_of_lt_of_le hj h.size) hd).trans (h.block j hj hd)⟩
theorem Only.of_grown {r : Option Nat} (h : w.grownBy w' r) (hr : ∀ k, r = some k → S k) : Only S w w' := ⟨h.os, h.tape, h.output, h.size, fun k hk hd => h.block k hk fun e => hd (hr k e.symm)⟩
theorem Only.mono (h : Only S w w') (hS : ∀ k, S k → S' k) : Only S' w w' := ⟨h.os, h.tape, h.output, h.size, fun k hk hd => h.block k hk fun hs => hd (hS k hs)⟩
theorem Only.below {B : Nat} {w0 : World} (h : Only S w w') (hb : Below B w0 w) (hB : B ≤ w.heap.size) (hS : ∀ k, S k → B ≤ k) : Below B w0 w' :=
  ⟨h.os.trans hb.os, h.tape.trans hb.tape, h.output.trans hb.output, Nat.le_trans hb.size h.size, fun k hk => (h.block k (by omega) fun hs => by have := hS k hs; omega).trans (hb.block k hk)⟩
theorem Only.set {b i : Nat} {u : Value} (hb : S b) : Only S w (w.setCell ⟨b, i, none⟩ u) :=
  ⟨rfl, rfl, rfl, by simp, fun k _ hd => Below.heap_setCell _ _ _ _ (by show k ≠ b; exact fun e => hd (e ▸ hb))⟩
end
end Go.Proofs.YtglcailcdcpadaaGreatDoor
/-
  Nodes of structures: where their rows lie and what they hold; rows of nodes; structures; arguments of these types, opened. Nothing here knows of the program's text.
-/
namespace Go.Proofs.YtglcailcdcpadaaGreatDoor
open Go Go.Joins Go.ChangeShapes Go.WideShapes Go.ChangeAt Go.RowKit Go.Deep

/-- A node: two rows of numbers, and two numbers. -/
structure Nd where
  h : Hp
  s : Int
  m : Int
def Nd.body (x : Nd) : (List Int × List Int) × Int × Int := (x.h.body, x.s, x.m)
abbrev ndC (a : Option Addr) (n ca : Nat) (b : Option Addr) (m cb : Nat) (s q : Int) : Value := .agg #[.slice a n ca, .slice b m cb, .int .i64 s, .int .i64 q]
def ndCells (x : Nd) : List Value := [.slice x.h.a x.h.vs.length x.h.ca, .slice x.h.b x.h.zs.length x.h.cb, .int .i64 x.s, .int .i64 x.m]
theorem ndCells_length (x : Nd) : (ndCells x).length = 4 := rfl
abbrev ndVals (ns : List Nd) : List Value := fl ndCells ns
/-- A row of nodes that may be read. -/
structure NodesAt (W : World) (a : Option Addr) (ns : List Nd) : Prop where
  row : Row W W.heap.size a (ndVals ns)
  each : ∀ x ∈ ns, x.h.At W
theorem NodesAt.below {W W' : World} {a : Option Addr} {ns : List Nd} (h : NodesAt W a ns) (hb : Below W.heap.size W W') : NodesAt W' a ns :=
  ⟨(h.row.below hb).grow hb.size, fun x hx => (h.each x hx).below hb⟩
abbrev NdItem (W : World) (b o k : Nat) (x : Nd) : Prop :=
  W.cell? ⟨b, o + k * 4, none⟩ = some (.slice x.h.a x.h.vs.length x.h.ca) ∧ W.cell? ⟨b, o + k * 4 + 1, none⟩ = some (.slice x.h.b x.h.zs.length x.h.cb) ∧
    W.cell? ⟨b, o + k * 4 + 2, none⟩ = some (.int .i64 x.s) ∧ W.cell? ⟨b, o + k * 4 + 3, none⟩ = some (.int .i64 x.m)
theorem NodesAt.item {W : World} {a : Option Addr} {ns : List Nd} (h : NodesAt W a ns) (k : Nat) (hk : k < ns.length) :
    ∃ b o, a = some ⟨b, o, none⟩ ∧ b < W.heap.size ∧ NdItem W b o k ns[k] ∧ ns[k].h.At W := by
  obtain ⟨b, o, rfl, hb, hc⟩ := Row.item ndCells_length (by omega) h.row k hk
  exact ⟨b, o, rfl, hb, ⟨hc 0 _ rfl, by rw [Nat.add_assoc]; exact hc 1 _ rfl, by rw [Nat.add_assoc]; exact hc 2 _ rfl, by rw [Nat.add_assoc]; exact hc 3 _ rfl⟩, h.each _ (List.getElem_mem hk)⟩
theorem set4_take (xs : List Value) (o : Nat) (u v x y : Value) (h : o + 4 ≤ xs.length) : ((((xs.set o u).set (o + 1) v).set (o + 2) x).set (o + 3) y).take (o + 4) = xs.take o ++ [u, v, x, y] := by
  apply List.ext_getElem?
  intro j
  rcases Nat.lt_or_ge j o with hj | hj
  · rw [List.getElem?_append_left (by simp; omega), List.getElem?_take_of_lt (by omega), List.getElem?_take_of_lt hj]
    simp only [List.getElem?_set]
    rw [if_neg (by omega), if_neg (by omega), if_neg (by omega), if_neg (by omega)]
  · rw [List.getElem?_append_right (by simp; omega), List.length_take, Nat.min_eq_left (by omega)]
    rcases Nat.lt_or_ge j (o + 4) with hj5 | hj5
    · obtain ⟨i, rfl, hi⟩ : ∃ i, j = o + i ∧ i < 4 := ⟨j - o, by omega, by omega⟩
      rw [List.getElem?_take_of_lt hj5, Nat.add_sub_cancel_left]
      simp only [List.getElem?_set, List.length_set]
      match i, hi with
      | 0, _ => simp; omega
      | 1, _ => simp; omega
      | 2, _ => simp; omega
      | 3, _ => simp; omega
    · rw [List.getElem?_eq_none (by rw [List.length_take]; omega), List.getElem?_eq_none (by simp; omega)]
def ndSize (x : Nd) : Nat := hpSize x.h
def ndTotal (ns : List Nd) : Nat := (ns.map ndSize).sum
theorem ndTotal_next (ns : List Nd) (k : Nat) (h : k < ns.length) : ndTotal (ns.take (k + 1)) = ndTotal (ns.take k) + ndSize ns[k] := by
  unfold ndTotal
  rw [take_next ns k h, List.map_append, List.sum_append, List.map_cons, List.map_nil, List.sum_cons, List.sum_nil, Nat.add_zero]

/-- A structure: a row of nodes and a row of numbers. -/
structure St where
  a : Option Addr
  ca : Nat
  ns : List Nd
  b : Option Addr
  cb : Nat
  zs : List Int
abbrev St.v (x : St) : Value := heV x.a x.ns.length x.ca x.b x.zs.length x.cb
def St.body (x : St) : List ((List Int × List Int) × Int × Int) × List Int := (x.ns.map Nd.body, x.zs)
structure St.At (W : World) (x : St) : Prop where
  nodes : NodesAt W x.a x.ns
  next : Row W W.heap.size x.b (intVals x.zs)
theorem St.At.below {W W' : World} {x : St} (h : x.At W) (hb : Below W.heap.size W W') : x.At W' := ⟨h.nodes.below hb, (h.next.below hb).grow hb.size⟩
def stSize (x : St) : Nat := x.ns.length + ndTotal x.ns + x.zs.length

/-- What an argument's node keeps. -/
structure Nd.Ok (W : World) (x : Nd) : Prop where
  h : HeapOk W x.h.a x.h.b x.h.vs x.h.zs
  s : -9223372036854775808 ≤ x.s ∧ x.s ≤ 9223372036854775807
  m : -9223372036854775808 ≤ x.m ∧ x.m ≤ 9223372036854775807
/-- What an argument's structure keeps. -/
structure St.Ok (W : World) (x : St) : Prop where
  at_ : x.At W
  ln : x.ns.length ≤ maxLen
  lz : x.zs.length ≤ maxLen
  each : ∀ y ∈ x.ns, y.Ok W
  bz : ∀ n ∈ x.zs, -9223372036854775808 ≤ n ∧ n ≤ 9223372036854775807
section
variable {H : Type} {enc : TypeId × Value → H} {P : Program} {W : World} {t u e : TypeId} {f0 f1 f2 f3 q0 q1 : Field}
theorem open_node_cells {n : Nat} {cs : List Value} {y : DataW H × List MemPlace} (hs : P.underlying t = some (.struct #[f0, f1, f2, f3])) (hC : P.cellsOf t = 4) (hoff : (f0.offset, f1.offset, f2.offset, f3.offset) = (0, 1, 2, 3))
    (hcs : (P.cellsOf f0.type, P.cellsOf f1.type, P.cellsOf f2.type, P.cellsOf f3.type) = (1, 1, 1, 1))
    (h0 : P.underlying f0.type = some (.slice e)) (h1 : P.underlying f1.type = some (.slice e)) (h2 : P.underlying f2.type = some (.int .i64)) (h3 : P.underlying f3.type = some (.int .i64)) (he : P.underlying e = some (.int .i64)) (hce : P.cellsOf e = 1)
    (hlt : ∀ x ∈ y.2, x.block < W.heap.size) (h : DataW.trod enc P W 0 (fun _ => true) true n t cs = some y) : ∃ x : Nd, cs = ndCells x ∧ x.Ok W := by
  simp only [Prod.mk.injEq] at hoff hcs
  obtain ⟨o0, o1, o2, o3⟩ := hoff
  obtain ⟨c0, c1, c2, c3⟩ := hcs
  obtain ⟨xs, m, rfl, rfl, hlen, hxl, hg⟩ := DataW.trod_struct hs h
  rw [hC] at hlen
  match cs, hlen, xs, hxl with
  | [s0, s1, s2, s3], _, [y0, y1, y2, y3], _ =>
    have e0 := hg 0 f0 rfl
    have e1 := hg 1 f1 rfl
    have e2 := hg 2 f2 rfl
    have e3 := hg 3 f3 rfl
    rw [o0, c0] at e0
    rw [o1, c1] at e1
    rw [o2, c2] at e2
    rw [o3, c3] at e3
    simp only [List.drop, List.take] at e0 e1 e2 e3
    obtain ⟨a, ca, vs, rfl, _, l0, r0, w0⟩ := open_nums_in h0 he hce (fun x hx => hlt x (by simp [hx])) (e0.trans rfl)
    obtain ⟨b, cb, zs, rfl, _, l1, r1, w1⟩ := open_nums_in h1 he hce (fun x hx => hlt x (by simp [hx])) (e1.trans rfl)
    obtain ⟨a2, q2, _, w2⟩ := DataW.trod_int h2 (e2.trans rfl)
    obtain ⟨a3, q3, _, w3⟩ := DataW.trod_int h3 (e3.trans rfl)
    simp only [List.cons.injEq, and_true] at q2 q3
    subst q2 q3
    exact ⟨⟨⟨a, ca, b, cb, vs, zs⟩, a2, a3⟩, rfl, ⟨⟨r0, r1⟩, l0, l1, w0, w1⟩, i64_bounds w2, i64_bounds w3⟩
theorem open_nodes_in {v : Value} {n : Nat} {y : DataW H × List MemPlace} (ht : P.underlying u = some (.slice t)) (hs : P.underlying t = some (.struct #[f0, f1, f2, f3])) (hC : P.cellsOf t = 4) (hoff : (f0.offset, f1.offset, f2.offset, f3.offset) = (0, 1, 2, 3))
    (hcs : (P.cellsOf f0.type, P.cellsOf f1.type, P.cellsOf f2.type, P.cellsOf f3.type) = (1, 1, 1, 1))
    (h0 : P.underlying f0.type = some (.slice e)) (h1 : P.underlying f1.type = some (.slice e)) (h2 : P.underlying f2.type = some (.int .i64)) (h3 : P.underlying f3.type = some (.int .i64)) (he : P.underlying e = some (.int .i64)) (hce : P.cellsOf e = 1)
    (hlt : ∀ x ∈ y.2, x.block < W.heap.size) (h : DataW.trod enc P W 0 (fun _ => true) true n u [v] = some y) :
    ∃ (a : Option Addr) (cap : Nat) (ns : List Nd), v = .slice a ns.length cap ∧ ns.length ≤ maxLen ∧ NodesAt W a ns ∧ (∀ x ∈ ns, x.Ok W) := by
  rcases open_slice ht h with ⟨hcs', _⟩ | ⟨a, len', cap', m, n', D, Pl, hcs', _, hl, hm, hmm, hx', hi⟩
  · simp only [List.cons.injEq, and_true] at hcs'
    subst hcs'
    exact ⟨none, 0, [], rfl, Nat.zero_le _, ⟨Row.nil_, fun x hx => by simp at hx⟩, fun x hx => by simp at hx⟩
  · simp only [List.cons.injEq, and_true] at hcs'
    subst hcs'
    simp only [if_true] at hmm
    subst hmm
    subst hx'
    have hone' : ∀ i, i < len' → ∃ z : Nd, W.cells? 0 (a.add (i * 4)) 4 = some (ndCells z) ∧ z.Ok W := by
      intro i hil
      obtain ⟨cs', hc, ht'⟩ := hi i (Nat.lt_of_lt_of_le hil hl)
      obtain ⟨z, rfl, hz⟩ := open_node_cells hs hC hoff hcs h0 h1 h2 h3 he hce (fun x hx => hlt x (List.mem_append_right _ (List.mem_flatMap.2 ⟨i, List.mem_range.2 (Nat.lt_of_lt_of_le hil hl), hx⟩))) ht'
      rw [hC] at hc
      exact ⟨z, hc, hz⟩
    let g : Nat → Nd := fun i => if h : i < len' then Classical.choose (hone' i h) else ⟨⟨none, 0, none, 0, [], []⟩, 0, 0⟩
    have hg : ∀ i, i < len' → W.cells? 0 (a.add (i * 4)) 4 = some (ndCells (g i)) ∧ (g i).Ok W := by
      intro i hil
      have := Classical.choose_spec (hone' i hil)
      simpa [g, hil] using this
    have hlen : ((List.range len').map g).length = len' := by simp
    have hok : ∀ x ∈ (List.range len').map g, x.Ok W := by
      intro x hx
      obtain ⟨i, hi', rfl⟩ := List.mem_map.1 hx
      exact (hg i (List.mem_range.1 hi')).2
    refine ⟨some a, _, (List.range len').map g, by rw [hlen], by omega, ⟨?_, fun x hx => (hok x hx).h.at_⟩, hok⟩
    obtain ⟨b, off, spot⟩ := a
    have hcell : ∀ i, i < len' → ∀ j (hj : j < 4), W.cell? ((⟨b, off, spot⟩ : Addr).add (i * 4 + j)) = some ((ndCells (g i))[j]'(by rw [ndCells_length]; exact hj)) := by
      intro i hil j hj
      obtain ⟨_, _, hat⟩ := World.cells?_some (hg i hil).1
      have := hat j hj
      rw [Go.Deep.add_add] at this
      rw [this, List.getElem?_eq_getElem (by rw [ndCells_length]; exact hj)]
    intro k x hx
    have hk : k < len' * 4 := by
      have := (List.getElem?_eq_some_iff.1 hx).1
      rwa [fl_length ndCells_length, hlen] at this
    have hspot : spot = none := by
      have := World.cell?_spot (hcell 0 (by omega) 0 (by omega))
      simpa [Addr.add] using this
    subst hspot
    have hk5 : k / 4 * 4 + k % 4 = k := by omega
    have hm5 : k % 4 < 4 := Nat.mod_lt _ (by omega)
    refine ⟨b, off, rfl, ?_, ?_⟩
    · refine hlt (.cell b (off + 0)) ?_
      exact List.mem_append_left _ (MemPlace.mem_row.2 ⟨0, by rw [hC]; omega, by simp⟩)
    · have h1 := hcell (k / 4) (by omega) (k % 4) hm5
      rw [hk5, add_plain] at h1
      rw [h1]
      rw [← hk5, fl_at ndCells_length _ (k / 4) (by rw [hlen]; omega) (k % 4) hm5, List.getElem?_eq_getElem (by rw [ndCells_length]; exact hm5)] at hx
      simpa using hx
/-- An argument that is a structure, opened. -/
theorem open_structure {r : Reach} {b0 : Nat} {s : TypeId} {v : Value} {d : DataW H} {p : List MemPlace} (hst : P.underlying s = some (.struct #[q0, q1])) (hone : oneCellFields P #[q0, q1] = true) (hCp : P.cellsOf s = 2)
    (hq0 : P.underlying q0.type = some (.slice t)) (hq1 : P.underlying q1.type = some (.slice e))
    (hs : P.underlying t = some (.struct #[f0, f1, f2, f3])) (hC : P.cellsOf t = 4) (hoff : (f0.offset, f1.offset, f2.offset, f3.offset) = (0, 1, 2, 3))
    (hcs : (P.cellsOf f0.type, P.cellsOf f1.type, P.cellsOf f2.type, P.cellsOf f3.type) = (1, 1, 1, 1))
    (h0 : P.underlying f0.type = some (.slice e)) (h1 : P.underlying f1.type = some (.slice e)) (h2 : P.underlying f2.type = some (.int .i64)) (h3 : P.underlying f3.type = some (.int .i64)) (he : P.underlying e = some (.int .i64)) (hce : P.cellsOf e = 1)
    (hlt : ∀ x ∈ p, x.block < W.heap.size) (hv : Value.okWide P W r b0 s v) (h : DataW.Trod enc P W 0 (fun _ => true) true s v d p) : ∃ x : St, v = x.v ∧ x.Ok W := by
  obtain ⟨v0, v1, y0, y1, n, rfl, _, rfl, e0, e1⟩ := open_agg2 hst hone hCp hv h
  obtain ⟨a, ca, ns, rfl, l0, r0, w0⟩ := open_nodes_in hq0 hs hC hoff hcs h0 h1 h2 h3 he hce (fun x hx => hlt x (by simp [hx])) e0
  obtain ⟨b, cb, zs, rfl, _, l1, r1, w1⟩ := open_nums_in hq1 he hce (fun x hx => hlt x (by simp [hx])) e1
  exact ⟨⟨a, ca, ns, b, cb, zs⟩, rfl, ⟨r0, r1⟩, l0, l1, w0, w1⟩
end
theorem Nd.Ok.below {W W' : World} {x : Nd} (h : x.Ok W) (hb : Below W.heap.size W W') : x.Ok W' := ⟨⟨h.h.at_.below hb (Nat.le_refl _), h.h.lv, h.h.lz, h.h.bv, h.h.bz⟩, h.s, h.m⟩
theorem St.Ok.below {W W' : World} {x : St} (h : x.Ok W) (hb : Below W.heap.size W W') : x.Ok W' := ⟨h.at_.below hb, h.ln, h.lz, fun y hy => (h.each y hy).below hb, h.bz⟩
/-- A structure of at most 1048576 elements altogether: what is used of that. -/
structure Small (s : List ((List Int × List Int) × Int × Int) × List Int) : Prop where
  nb : s.1.length ≤ 1048576
  zb : s.2.length ≤ 1048576
  eb : ∀ y ∈ s.1, y.1.1.length ≤ 1048576 ∧ y.1.2.length ≤ 1048576
section
variable {x : St} (h : Small x.body)
include h
theorem Small.n1 : x.ns.length ≤ 1048576 := by simpa [St.body] using h.nb
theorem Small.z1 : x.zs.length ≤ 1048576 := h.zb
theorem Small.e1 : ∀ y ∈ x.ns, y.h.vs.length ≤ 1048576 ∧ y.h.zs.length ≤ 1048576 := fun y hy => h.eb y.body (List.mem_map.2 ⟨y, hy, rfl⟩)
theorem Small.n : x.ns.length ≤ 1099511627776 := Nat.le_trans h.n1 (by omega)
theorem Small.z : x.zs.length ≤ 1099511627776 := Nat.le_trans h.z1 (by omega)
theorem Small.e : ∀ y ∈ x.ns, y.h.vs.length ≤ 1099511627776 ∧ y.h.zs.length ≤ 1099511627776 := fun y hy => by have := h.e1 y hy; omega
theorem small_max : x.ns.length ≤ maxLen ∧ x.zs.length ≤ maxLen ∧ ∀ z ∈ x.ns, z.h.vs.length ≤ maxLen ∧ z.h.zs.length ≤ maxLen := by
  have h1 := h.n1
  have h2 := h.z1
  unfold maxLen
  exact ⟨by omega, by omega, fun z hz => by have := h.e1 z hz; omega⟩
end
theorem ndSize_le : ∀ (ns : List Nd) (x : Nd), x ∈ ns → ndSize x ≤ ndTotal ns
  | y :: ns, x, hx => by
    have e : ndTotal (y :: ns) = ndSize y + ndTotal ns := by simp [ndTotal]
    rcases List.mem_cons.1 hx with rfl | hx
    · omega
    · have := ndSize_le ns x hx
      omega
theorem small_of {x : St} (h : stSize x ≤ 1048576) : Small x.body := by
  unfold stSize at h
  refine ⟨by simp only [St.body, List.length_map]; omega, by simp only [St.body]; omega, fun y hy => ?_⟩
  obtain ⟨z, hz, rfl⟩ := List.mem_map.1 hy
  have := ndSize_le _ _ hz
  unfold ndSize hpSize at this
  exact ⟨by show z.h.vs.length ≤ _; omega, by show z.h.zs.length ≤ _; omega⟩
theorem one_boxL (w : World) (xs : List Value) (t : TypeId) : ∃ W0, w.alloc (.cells xs.toArray t) = W0 ∧ Below w.heap.size w W0 ∧ BoxL W0 w.heap.size xs :=
  ⟨_, rfl, (Below.refl _ _).alloc (Nat.le_refl _) _, BoxL.new w xs t⟩
end Go.Proofs.YtglcailcdcpadaaGreatDoor
