/-
  The program's ParseProgram: the one program that is right and whose text it is, and true; else the empty program and false.
-/
import Derived.Test.YtabedmjaodinbaaGreatDoorReader
import Derived.Test.YtabedmjaodinbaaGreatDoorApart
import Derived.Test.YtabedmjaodinbaaGreatDoorImplProgText
import Derived.Test.YtabedmjaodinbaaGreatDoorIsProg
import Derived.Test.YtabedmjaodinbaaGreatDoorToEdges
import Derived.Deep.AppendLies
import Derived.Deep.RegionLaw
namespace Go.Proofs.YtabedmjaodinbaaGreatDoor
open Go Go.RowKit

/-- Of the old blocks only B + 2, B + 3 and P may have turned. -/
structure Ex (B P : Nat) (w w' : World) : Prop where
  below : Below (B + 2) w w'
  block : ∀ k, B + 4 ≤ k → k ≠ P → k < w.heap.size → w'.heap[k]? = w.heap[k]?
theorem Ex.refl (B P : Nat) (w : World) : Ex B P w w := ⟨Below.refl _ _, fun _ _ _ _ => rfl⟩
theorem Ex.two {B P : Nat} {a b c : World} (h : Ex B P a b) (k : Two B b c) : Ex B P a c :=
  ⟨h.below.trans k.below, fun i hi hp hs => (k.block i hi (Nat.lt_of_lt_of_le hs h.below.size)).trans (h.block i hi hp hs)⟩
theorem Ex.setP {B P : Nat} {a b : World} (h : Ex B P a b) (hP : B + 2 ≤ P) {o : Nat} (u : Value) : Ex B P a (b.setCell ⟨P, o, none⟩ u) :=
  ⟨h.below.setCell (p := ⟨P, o, none⟩) hP u, fun k hk hp hs => (Below.heap_setCell _ _ _ _ hp).trans (h.block k hk hp hs)⟩
theorem Ex.alloc {B P : Nat} {a b : World} (h : Ex B P a b) (hB : B + 2 ≤ b.heap.size) (o : Obj) : Ex B P a (b.alloc o) :=
  ⟨h.below.alloc hB o, fun k hk hp hs => (Below.heap_alloc _ _ _ (Nat.lt_of_lt_of_le hs h.below.size)).trans (h.block k hk hp hs)⟩
theorem Ex.grown {B P : Nat} {a b c : World} {r : Option Nat} (h : Ex B P a b) (hg : b.grownBy c r) (hB : B + 2 ≤ b.heap.size) (hr : ∀ k, r = some k → a.heap.size ≤ k ∧ B + 2 ≤ k) : Ex B P a c :=
  ⟨h.below.grown hg hB fun k hk => (hr k hk).2, fun k hk hp hs => (hg.block k (Nat.lt_of_lt_of_le hs h.below.size) fun e => by have := (hr k e.symm).1; omega).trans (h.block k hk hp hs)⟩
theorem Ex.at_ {B P : Nat} {w w' : World} (h : Ex B P w w') {k : Nat} (h1 : k < B + 2 ∨ B + 4 ≤ k) (h2 : k < w.heap.size) (h3 : k ≠ P) : w'.heap[k]? = w.heap[k]? := by
  rcases h1 with h1 | h1
  · exact h.below.block k h1
  · exact h.block k h1 h3 h2
theorem Ex.cell {B P : Nat} {w w' : World} (h : Ex B P w w') {p : Addr} (h1 : p.block < B + 2 ∨ B + 4 ≤ p.block) (h2 : p.block < w.heap.size) (h3 : p.block ≠ P) : w'.cell? p = w.cell? p := World.cell?_of_block (w := w) (h.at_ h1 h2 h3)
theorem Ex.frozen {B P : Nat} {w w' : World} (h : Ex B P w w') {p : Addr} (h1 : p.block < B + 2 ∨ B + 4 ≤ p.block) (h2 : p.block < w.heap.size) (h3 : p.block ≠ P) : w'.frozen? p = w.frozen? p := World.frozen?_of_block (w := w) (h.at_ h1 h2 h3)
theorem Ex.own {B P : Nat} {w w' : World} (h : Ex B P w w') {base e size n : Nat} {v : Value} {xs : List Value} (ho : w.ownsRow base e size v n xs) (hb : B + 4 ≤ base) (hP : P < base) : w'.ownsRow base e size v n xs :=
  ⟨ho.1, ho.2.imp id fun ⟨g, cap, cur, a, b, hh, r⟩ => ⟨g, cap, cur, a, b, by
    have hg : g < w.heap.size := by
      rcases Nat.lt_or_ge g w.heap.size with h1 | h1
      · exact h1
      · rw [Array.getElem?_eq_none h1] at hh; cases hh
    rw [h.block g (by omega) (by omega) hg]
    exact hh, r⟩⟩

/-- The reader's closures, in a box. -/
structure Box (W : World) (B Q : Nat) : Prop where
  vars : W.cell? ⟨Q, 0, none⟩ = some (.func (.func 68) #[] #[ptrTo (B + 4)])
  points : W.cell? ⟨Q, 1, none⟩ = some (.func (.func 70) #[] #[ptrTo (B + 5)])
  edge : W.cell? ⟨Q, 2, none⟩ = some (.func (.func 71) #[] #[ptrTo (B + 5), ptrTo (B + 6)])
  more : W.cell? ⟨Q, 3, none⟩ = some (.func (.func 72) #[] #[ptrTo (B + 3), ptrTo (B + 2), ptrTo B])
  good : W.cell? ⟨Q, 4, none⟩ = some (.func (.func 73) #[] #[ptrTo (B + 3)])
theorem Box.keeps {W W' : World} {B Q : Nat} (h : Box W B Q) (hk : ∀ o, W'.cell? ⟨Q, o, none⟩ = W.cell? ⟨Q, o, none⟩) : Box W' B Q :=
  ⟨(hk _).trans h.vars, (hk _).trans h.points, (hk _).trans h.edge, (hk _).trans h.more, (hk _).trans h.good⟩

abbrev fVars (B : Nat) : Value := .func (.func 68) #[] #[ptrTo (B + 4)]
abbrev fPoints (B : Nat) : Value := .func (.func 70) #[] #[ptrTo (B + 5)]
abbrev fEdge (B : Nat) : Value := .func (.func 71) #[] #[ptrTo (B + 5), ptrTo (B + 6)]
abbrev fMore (B : Nat) : Value := .func (.func 72) #[] #[ptrTo (B + 3), ptrTo (B + 2), ptrTo B]
abbrev fGood (B : Nat) : Value := .func (.func 73) #[] #[ptrTo (B + 3)]
theorem reader_box (w : World) (B : Nat) : ∃ W, (w.alloc (.cells #[fVars B, fPoints B, fEdge B, fMore B, fGood B] 59)).alloc (.cells #[.slice none 0 0, .int .i64 0, .slice none 0 0] 27) = W ∧ Below w.heap.size w W ∧ w.heap.size + 1 < W.heap.size ∧ Box W B w.heap.size ∧
    Box3 W (w.heap.size + 1) (.slice none 0 0) (.int .i64 0) (.slice none 0 0) ∧ (∀ o, W.frozen? ⟨w.heap.size + 1, o, none⟩ = false) :=
  ⟨_, rfl, ((Below.refl _ _).alloc (Nat.le_refl _) _).alloc (by simp) _, by simp, ⟨by simp [go_sem], by simp [go_sem], by simp [go_sem], by simp [go_sem], by simp [go_sem]⟩, by simp [Box3, go_sem], fun o => by simp [go_sem]⟩

/-- All that the walk knows: the reader, its closures in a box, the program so far in a box, the answer's box. -/
structure All (w : World) (B Q : Nat) (t : ByteArray) (n : Nat) (g : Bool) (x0 x1 x2 : Value) (W : World) : Prop where
  rd : Rd W B t n g
  box : Box W B Q
  p : Box3 W (Q + 1) x0 x1 x2
  pf : ∀ o, W.frozen? ⟨Q + 1, o, none⟩ = false
  n : Box3 W w.heap.size (.slice none 0 0) (.int .i64 0) (.slice none 0 0)
  nf : ∀ o, W.frozen? ⟨w.heap.size, o, none⟩ = false
  below : Below w.heap.size w W
  lt : w.heap.size < B
  hQ : B + 7 ≤ Q
  hz : Q + 1 < W.heap.size
section
variable {w W W' : World} {B Q n m : Nat} {t : ByteArray} {g g' : Bool} {x0 x1 x2 : Value}
theorem All.two (h : All w B Q t n g x0 x1 x2 W) (ht : Two B W W') (hr : Rd W' B t m g') : All w B Q t m g' x0 x1 x2 W' :=
  have h1 := h.lt
  have h2 := h.hQ
  have h3 := h.hz
  have kk : ∀ b, (b = Q ∨ b = Q + 1 ∨ b = w.heap.size) → W'.heap[b]? = W.heap[b]? := fun b hb => ht.at_ (by omega) (by omega)
  have kc : ∀ b o, (b = Q ∨ b = Q + 1 ∨ b = w.heap.size) → W'.cell? ⟨b, o, none⟩ = W.cell? ⟨b, o, none⟩ := fun b o hb => World.cell?_of_block (kk b hb)
  have kf : ∀ b o, (b = Q ∨ b = Q + 1 ∨ b = w.heap.size) → W'.frozen? ⟨b, o, none⟩ = W.frozen? ⟨b, o, none⟩ := fun b o hb => World.frozen?_of_block (kk b hb)
  ⟨hr, h.box.keeps fun o => kc Q o (.inl rfl), ⟨(kc _ 0 (.inr (.inl rfl))).trans h.p.1, (kc _ 1 (.inr (.inl rfl))).trans h.p.2.1, (kc _ 2 (.inr (.inl rfl))).trans h.p.2.2⟩, fun o => (kf _ o (.inr (.inl rfl))).trans (h.pf o),
    ⟨(kc _ 0 (.inr (.inr rfl))).trans h.n.1, (kc _ 1 (.inr (.inr rfl))).trans h.n.2.1, (kc _ 2 (.inr (.inr rfl))).trans h.n.2.2⟩, fun o => (kf _ o (.inr (.inr rfl))).trans (h.nf o), ht.base h.below (by omega), h1, h2, Nat.lt_of_lt_of_le h3 ht.below.size⟩
theorem All.call (h : All w B Q t n g x0 x1 x2 W) (hb : Below W.heap.size W W') : All w B Q t n g x0 x1 x2 W' :=
  h.two (Two.of hb (by have := h.rd.size; omega)) (h.rd.below hb)
theorem All.setP (h : All w B Q t n g x0 x1 x2 W) (i : Nat) (u : Value) : All w B Q t n g (if i = 0 then u else x0) (if i = 1 then u else x1) (if i = 2 then u else x2) (W.setCell ⟨Q + 1, i, none⟩ u) :=
  have h1 := h.lt
  have h2 := h.hQ
  have kc : ∀ b o, b ≠ Q + 1 → (W.setCell ⟨Q + 1, i, none⟩ u).cell? ⟨b, o, none⟩ = W.cell? ⟨b, o, none⟩ := fun b o hb => World.cell?_of_block (Below.heap_setCell _ _ _ _ hb)
  have kf : ∀ b o, b ≠ Q + 1 → (W.setCell ⟨Q + 1, i, none⟩ u).frozen? ⟨b, o, none⟩ = W.frozen? ⟨b, o, none⟩ := fun b o hb => World.frozen?_of_block (Below.heap_setCell _ _ _ _ hb)
  have kp : ∀ j x, W.cell? ⟨Q + 1, j, none⟩ = some x → (W.setCell ⟨Q + 1, i, none⟩ u).cell? ⟨Q + 1, j, none⟩ = some (if i = j then u else x) := fun j x hx => by
    by_cases hij : i = j
    · subst hij
      rw [if_pos rfl]
      exact World.cell?_setCell_same _ _ _ hx
    · rw [if_neg hij]
      exact (World.cell?_setCell_other _ _ _ _ (fun e => hij (by have := congrArg Addr.off e; simp at this; omega))).trans hx
  ⟨h.rd.setOther (p := ⟨Q + 1, i, none⟩) (by show B + 7 ≤ Q + 1; omega) u, h.box.keeps fun o => kc Q o (by omega), ⟨kp 0 _ h.p.1, kp 1 _ h.p.2.1, kp 2 _ h.p.2.2⟩, fun o => by simp [go_sem, h.pf o],
    ⟨(kc _ 0 (by omega)).trans h.n.1, (kc _ 1 (by omega)).trans h.n.2.1, (kc _ 2 (by omega)).trans h.n.2.2⟩, fun o => (kf _ o (by omega)).trans (h.nf o), h.below.setCell (p := ⟨Q + 1, i, none⟩) (by show w.heap.size ≤ Q + 1; omega) u, h1, h2, by rw [setCell_size]; exact h.hz⟩
theorem All.grown {r : Option Nat} (h : All w B Q t n g x0 x1 x2 W) (hg : W.grownBy W' r) (hr : ∀ k, r = some k → Q + 2 ≤ k) : All w B Q t n g x0 x1 x2 W' :=
  have h1 := h.lt
  have h2 := h.hQ
  have h3 := h.hz
  have h4 := h.rd
  have kk : ∀ b, b < Q + 2 → W'.heap[b]? = W.heap[b]? := fun b hb => hg.block b (by omega) fun e => by have := hr b e.symm; omega
  have kc : ∀ b o, b < Q + 2 → W'.cell? ⟨b, o, none⟩ = W.cell? ⟨b, o, none⟩ := fun b o hb => World.cell?_of_block (kk b hb)
  have kf : ∀ b o, b < Q + 2 → W'.frozen? ⟨b, o, none⟩ = W.frozen? ⟨b, o, none⟩ := fun b o hb => World.frozen?_of_block (kk b hb)
  ⟨⟨Nat.le_trans h4.size hg.size, (kc _ _ (by omega)).trans h4.text, (kc _ _ (by omega)).trans h4.place, (kf _ _ (by omega)).trans h4.placef, (kc _ _ (by omega)).trans h4.good, (kf _ _ (by omega)).trans h4.goodf, (kc _ _ (by omega)).trans h4.piece, (kc _ _ (by omega)).trans h4.number, (kc _ _ (by omega)).trans h4.stmt⟩,
    h.box.keeps fun o => kc Q o (by omega), ⟨(kc _ 0 (by omega)).trans h.p.1, (kc _ 1 (by omega)).trans h.p.2.1, (kc _ 2 (by omega)).trans h.p.2.2⟩, fun o => (kf _ o (by omega)).trans (h.pf o),
    ⟨(kc _ 0 (by omega)).trans h.n.1, (kc _ 1 (by omega)).trans h.n.2.1, (kc _ 2 (by omega)).trans h.n.2.2⟩, fun o => (kf _ o (by omega)).trans (h.nf o), h.below.grown hg (by omega) (fun k hk => by have := hr k hk; omega), h1, h2, Nat.lt_of_lt_of_le h3 hg.size⟩
end

def lenV : Option Value → Nat
  | some (.slice _ n _) => n
  | _ => 0
theorem nx_bound (c : UInt8) (t : List UInt8) (n : Nat) : nx c t n ≤ n + t.length + 1 := by
  have := pc_length c t n
  unfold nx
  omega
theorem st_bound {t : List UInt8} {k : Nat} (hc : ∀ j, j < k → contR t j = true) (ht : t.length ≤ 1000000000) : (st t k).1 ≤ 5000000000 := by
  cases k with
  | zero =>
    show at0 t ≤ _
    have h1 := nx_bound 59 t 0
    have h2 := nx_bound 59 t (nx 59 t 0)
    unfold at0
    omega
  | succ k =>
    have h := hc k (by omega)
    simp only [contR, Bool.and_eq_true, decide_eq_true_eq] at h
    show edNext t (st t k).1 ≤ _
    have h1 := nx_bound 32 t (st t k).1
    have h2 := nx_bound 32 t (nx 32 t (st t k).1)
    have h3 := nx_bound 59 t (nx 32 t (nx 32 t (st t k).1))
    unfold edNext
    omega
theorem cont_small {t : List UInt8} {k : Nat} (hc : ∀ j, j < k → contR t j = true) : k ≤ 25 := by
  cases k with
  | zero => omega
  | succ k =>
    have h := hc k (by omega)
    simp only [contR, Bool.and_eq_true, decide_eq_true_eq] at h
    omega
theorem row_of_own {w : World} {base e n M : Nat} {a : Option Addr} {c : Nat} {xs : List Value} (h : w.ownsRow base e 1 (.slice a n c) n xs) (hM : ∀ j, (Value.slice a n c).ownBlock = some j → j < M) : Row w M a xs := by
  intro k x hx
  obtain ⟨b, o, ha, _, hc⟩ := Row.owned h k x hx
  exact ⟨b, o, ha, hM b (by rw [ha]; rfl), hc⟩

theorem news_edge (w : World) (x : Ed) : ∀ j u, (edCells x)[j]? = some u → (w.alloc (.cells #[.int .i64 x.f, .int .i64 x.t, .int .i64 x.k, .string x.a, .string x.b] 44)).cell? ((⟨w.heap.size, 0, none⟩ : Addr).add j) = some u := by
  intro j u hj
  match j, hj with
  | 0, hj => simp [edCells] at hj; subst hj; simp [Addr.add, go_sem]
  | 1, hj => simp [edCells] at hj; subst hj; simp [Addr.add, go_sem]
  | 2, hj => simp [edCells] at hj; subst hj; simp [Addr.add, go_sem]
  | 3, hj => simp [edCells] at hj; subst hj; simp [Addr.add, go_sem]
  | 4, hj => simp [edCells] at hj; subst hj; simp [Addr.add, go_sem]
  | j + 5, hj => simp [edCells] at hj
theorem edCells_one (x : Ed) : ∀ u ∈ edCells x, u.oneCell' = true := by
  intro u hu
  simp [edCells] at hu
  rcases hu with rfl | rfl | rfl | rfl | rfl <;> rfl

theorem appended {w w2 w9 : World} {B Q n : Nat} {t : ByteArray} {g : Bool} {x0 x1 x2 : Value} {M m k l : Nat} {v2 va : Value} {ys xs : List Value} {o : Obj} {e1 e2 : TypeId} (A : All w B Q t n g x0 x1 x2 w2) (hM : Q + 2 ≤ M) (h2 : w2.ownsRow M e1 5 v2 k ys) (h1 : w2.ownsRow m e2 1 va l xs)
    (hav : ∀ j, va.ownBlock = some j → j < M) (hg : (w2.alloc o).grownBy w9 v2.ownBlock) : All w B Q t n g x0 x1 x2 w9 ∧ w9.ownsRow m e2 1 va l xs :=
  ⟨(A.call ((Below.refl _ _).alloc (Nat.le_refl _) _)).grown hg (fun j hj => by have := (h2.lt j hj).1; omega), own_other (h1.alloc _) hg fun j hj e => by have h3 := hav j hj; have h4 := (h2.lt j e.symm).1; omega⟩

/-- A program as a value. -/
abbrev progV (a : Option Addr) (n cap : Nat) (p : Int) (b : Option Addr) (m capb : Nat) : Value := .agg #[.slice a n cap, .int .i64 p, .slice b m capb]
/-- What ParseProgram answers. -/
def ParsedProg (t : ByteArray) (w : World) (e : Ending) (w' : World) : Prop :=
  (∃ a ca b cb ss p es M, ValidT t.data.toList ss p es ∧ e = .returned (.tuple #[progV a ss.length ca p b es.length cb, .bool true]) ∧ ss.length ≤ ca ∧ es.length ≤ cb ∧ w.heap.size ≤ M ∧ M ≤ w'.heap.size ∧
    w'.ownsRow w.heap.size 9 1 (.slice a ss.length ca) ss.length (strVals ss) ∧ Row w' M a (strVals ss) ∧ w'.ownsRow M 44 5 (.slice b es.length cb) es.length (edVals es) ∧ Below w.heap.size w w') ∨
  ((∀ ss p es, ¬ ValidT t.data.toList ss p es) ∧ e = .returned (.tuple #[progV none 0 0 0 none 0 0, .bool false]) ∧ Below w.heap.size w w')

set_option maxHeartbeats 3200000 in
set_option maxRecDepth 100000 in
theorem implParseProg (t : ByteArray) (w : World) (ht : t.size ≤ 1000000000) (hT : Tabs w) :
    Calls Tryz.prog 8 #[.string t] w (ParsedProg t w) := by
  go_enter Tryz.func8, Tryz.ntmps8
  go_wp2_with fail
  obtain ⟨W0, hW0, hb0, hs0, hA0⟩ := one_box w (.slice none 0 0) (.int .i64 0) (.slice none 0 0) 27
  have hf0 : ∀ o, W0.frozen? ⟨w.heap.size, o, none⟩ = false := fun o => by rw [← hW0]; simp [go_sem]
  have hsz0 : W0.heap.size = w.heap.size + 1 := by rw [← hW0]; simp
  rw [hW0]
  clear hW0
  refine (readerOf t W0).mono ?_
  rintro e w1 ⟨rfl, hr1, hb1⟩
  obtain ⟨B, hB⟩ : ∃ B, W0.heap.size = B := ⟨_, rfl⟩
  rw [hB] at hr1 hb1 hsz0 ⊢
  have hN1 : Box3 w1 w.heap.size _ _ _ := hA0.keep hs0 (by rw [hB]; exact hb1)
  have hf1 : ∀ o, w1.frozen? ⟨w.heap.size, o, none⟩ = false := fun o => (hb1.frozen (p := ⟨w.heap.size, o, none⟩) (by show w.heap.size < B; omega)).trans (hf0 o)
  have hB1 : Below w.heap.size w w1 := hb0.trans (hb1.mono (by omega))
  have hz1 := hr1.size
  have hNB : w.heap.size < B := by omega
  unfold readV
  clear hf0 hA0 hs0 hb0 hb1 hsz0 hB
  go_wp2_with fail
  obtain ⟨W2, hW2, hb2, hs2, hQ2, hP2, hf2⟩ := reader_box w1 B
  rw [hW2]
  clear hW2
  have hr2 := hr1.below hb2
  have hN2 := hN1.keep (by omega) hb2
  have hg2 : ∀ o, W2.frozen? ⟨w.heap.size, o, none⟩ = false := fun o => (hb2.frozen (p := ⟨w.heap.size, o, none⟩) (by show w.heap.size < _; omega)).trans (hf1 o)
  have hB2 : Below w.heap.size w W2 := hB1.trans (hb2.mono (by omega))
  generalize w1.heap.size = Q at *
  have A2 : All w B Q t 0 true (.slice none 0 0) (.int .i64 0) (.slice none 0 0) W2 := ⟨hr2, hQ2, hP2, hf2, hN2, hg2, hB2, hNB, hz1, hs2⟩
  clear hr1 hN1 hf1 hB1 hb2 hr2 hQ2 hP2 hf2 hN2 hg2 hB2 hs2
  have hp := pc_length 59 t.data.toList 0
  rw [show t.data.toList.length = t.size by simp] at hp
  have hnx : nx 59 t.data.toList 0 ≤ 1000000001 := by unfold nx; omega
  have hp2 := pc_length 59 t.data.toList (nx 59 t.data.toList 0)
  rw [show t.data.toList.length = t.size by simp] at hp2
  have hnx2 : at0 t.data.toList ≤ 2000000002 := by unfold at0; rw [nx]; omega
  refine (readVars B t true 0 _ w A2.rd ht (by omega) hT (by omega) A2.below).mono ?_
  rintro e w4 ⟨w3, hr3, htw3, a, ca, rfl, hca, ho4, hb4⟩
  rw [show pieces 32 (mkS (pc 59 t.data.toList 0)) = varsL t.data.toList from rfl] at *
  have A4 := (A2.two htw3 hr3).call hb4
  have ho4' : w4.ownsRow (Q + 2) 9 1 _ _ _ := own_base ho4 (A2.two htw3 hr3).hz
  have hvl := ho4'.lt
  clear htw3 hb4 hr3 ho4 A2
  obtain ⟨c0, c1, c2⟩ := A4.p
  have d1 := A4.box.points
  have d2 := A4.pf
  have q1 : ¬ Q = Q + 1 := by omega
  go_wp2_with fail
  have A5 : All w B Q t _ _ (.slice a (varsL t.data.toList).length ca) (.int .i64 0) (.slice none 0 0) _ := A4.setP 0 (.slice a (varsL t.data.toList).length ca)
  have ho5 : (w4.setCell ⟨Q + 1, 0, none⟩ (.slice a (varsL t.data.toList).length ca)).ownsRow (Q + 2) 9 1 (.slice a (varsL t.data.toList).length ca) (varsL t.data.toList).length (strVals (varsL t.data.toList)) := ownsRow_setCell_below ho4' (a := ⟨Q + 1, 0, none⟩) (by show Q + 1 < Q + 2; omega) _
  clear A4 ho4' c0 c1 c2 d1 d2 hvl
  generalize (w4.setCell ⟨Q + 1, 0, none⟩ (.slice a (varsL t.data.toList).length ca)) = w5 at *
  refine (readPoints B t true _ _ w A5.rd ht (by omega) hT (by have := A5.lt; omega) A5.below).mono ?_
  rintro e w6 ⟨rfl, hr6, htw6⟩
  have A6 := A5.two htw6 hr6
  have ho6 := htw6.own ho5 (by have := A5.hQ; omega)
  rw [show nx 59 t.data.toList (nx 59 t.data.toList 0) = at0 t.data.toList from rfl, show pc 59 t.data.toList (nx 59 t.data.toList 0) = ptsF t.data.toList from rfl] at *
  clear A5 ho5 htw6 hr6
  obtain ⟨c0, c1, c2⟩ := A6.p
  have d2 := A6.pf
  go_wp2
  have A7 : All w B Q t _ _ (.slice a (varsL t.data.toList).length ca) (.int .i64 (numV (ptsF t.data.toList))) (.slice none 0 0) _ := A6.setP 1 (.int .i64 (numV (ptsF t.data.toList)))
  have ho7 := ownsRow_setCell_below ho6 (a := ⟨Q + 1, 1, none⟩) (by show Q + 1 < Q + 2; omega) (.int .i64 (numV (ptsF t.data.toList)))
  clear A6 ho6 c0 c1 c2 d2
  generalize (w6.setCell ⟨Q + 1, 1, none⟩ (.int .i64 (numV (ptsF t.data.toList)))) = w7 at *
  have hav : ∀ j, (Value.slice a (varsL t.data.toList).length ca).ownBlock = some j → j < w7.heap.size := fun j hj => (ho7.lt j hj).2
  have hM : Q + 2 ≤ w7.heap.size := A7.hz
  obtain ⟨M, hMe⟩ : ∃ M, w7.heap.size = M := ⟨_, rfl⟩
  rw [hMe] at hav hM
  have A7' : All w B Q t (st t.data.toList 0).1 (st t.data.toList 0).2.1 (.slice a (varsL t.data.toList).length ca) (.int .i64 (numV (ptsF t.data.toList))) (.slice none 0 0) w7 := A7
  have hML := Lib.hid hMe
  clear A7 hMe hp hnx hp2 hnx2
  have hlen : t.data.toList.length = t.size := by simp
  unfold ParsedProg
  generalize HTL : t.data.toList = tl at *
  generalize HSS : varsL tl = ss at *
  generalize HPN : numV (ptsF tl) = pn at *
  have KTL := Lib.hid HTL
  have KSS := Lib.hid HSS
  have KPN := Lib.hid HPN
  clear HTL HSS HPN
  go_loopw [] (fun wr => ∃ (k : Nat) (v2 : Value), (∀ j, j < k → contR tl j = true) ∧ All w B Q t (st tl k).1 (st tl k).2.1 (.slice a ss.length ca) (.int .i64 pn) v2 wr ∧ wr.ownsRow (Q + 2) 9 1 (.slice a ss.length ca) ss.length (strVals ss) ∧ wr.ownsRow M 44 5 v2 k (edVals (st tl k).2.2) ∧ M ≤ wr.heap.size)
    (fun wr => 30 - lenV (wr.cell? ⟨Q + 1, 2, none⟩))
  case atStart => exact ⟨0, _, fun j hj => absurd hj (by omega), A7', ho7, World.ownsRow_nil _ _ _ _, by rw [hML.out]; exact Nat.le_refl _⟩
  case round =>
    obtain ⟨k, v2, hc, A, hov, hoe, hMr⟩ := hrel
    have hk := cont_small hc
    have hn := st_bound hc (by omega)
    obtain ⟨a2, c2, rfl, hkc⟩ := own_form' hoe
    have hq : contR tl k = ((st tl k).2.1 && decide ((st tl k).1 ≤ t.size) && decide (k ≤ 24)) := by rw [contR, hlen]
    have e3 := A.box.more
    have e4 := A.box.good
    obtain ⟨c0, c1, c2'⟩ := A.p
    go_wp2_with fail
    refine (readMore B t _ _ _ A.rd).mono ?_
    rintro e w1 ⟨rfl, rfl⟩
    cases hgo : ((st tl k).2.1 && decide ((st tl k).1 ≤ t.size)) with
    | false =>
      go_wp2_with fail
      have hstop : contR tl k = false := by rw [hq, hgo]; rfl
      clear hq hgo e3
      refine (readGood B t _ _ _ A.rd).mono ?_
      rintro e w2 ⟨rfl, rfl⟩
      obtain ⟨n0, n1, n2⟩ := A.n
      have nf := A.nf
      have hsz : w.heap.size < w2.heap.size := by have := A.lt; have := A.hQ; have := A.hz; omega
      have hel : (st tl k).2.2.length = k := stR_length _ _ _ _
      have hvs : ss.length ≤ maxLen ∧ ∀ s ∈ ss, s.size ≤ maxLen := by
        have h1 := pc_length 59 tl 0
        rw [← KSS.out]
        refine ⟨?_, fun s hs => ?_⟩
        · have := pieces_length 32 (mkS (pc 59 tl 0))
          rw [show (mkS (pc 59 tl 0)).size = (pc 59 tl 0).length from mk_size _] at this
          unfold varsL maxLen
          omega
        · have := piece_size 32 (mkS (pc 59 tl 0)) s hs
          rw [show (mkS (pc 59 tl 0)).size = (pc 59 tl 0).length from mk_size _] at this
          unfold maxLen
          omega
      have HC := Lib.hid hc
      have HB := Lib.hid hvs
      clear hc hvs
      have hbl := A.below
      cases hg : (st tl k).2.1 with
      | false =>
        have hno := Lib.hid (read_no HC.out hstop (by rw [hg]; rfl))
        clear hstop hg
        go_wp2
        refine bodyPost_ret (v := .tuple #[progV none 0 0 0 none 0 0, .bool false]) (by simp [results, Tryz.results8, go_sem, n0, n1, n2]) rfl (.inr ⟨by rw [KTL.out]; exact hno.out, rfl, ?_⟩)
        exact ((hbl.setCell (p := ⟨w.heap.size, 0, none⟩) (Nat.le_refl _) _).setCell (p := ⟨w.heap.size, 1, none⟩) (Nat.le_refl _) _).setCell (p := ⟨w.heap.size, 2, none⟩) (Nat.le_refl _) _
      | true =>
        have hI := implIsProgram a a2 ca c2 ss pn (st tl k).2.2 w2 ⟨HB.out.1, HB.out.2, Row.owned hov⟩ ⟨by rw [hel]; unfold maxLen; omega, by have := Row.ownedN hoe; exact this⟩ (hT.names.keeps hbl)
        rw [hel] at hI
        go_wp2_with fail
        refine hI.mono ?_
        rintro e w3 ⟨rfl, hb3⟩
        have hbl3 := hbl.trans (hb3.mono hbl.size)
        obtain ⟨n0', n1', n2'⟩ := Box3.keep ⟨n0, n1, n2⟩ hsz hb3
        have nf' : ∀ o, w3.frozen? ⟨w.heap.size, o, none⟩ = false := fun o => (hb3.frozen (p := ⟨w.heap.size, o, none⟩) hsz).trans (nf o)
        obtain ⟨m0, m1, m2⟩ := A.p.keep A.hz hb3
        have hsz3 : w.heap.size < w3.heap.size := Nat.lt_of_lt_of_le hsz hb3.size
        have hNQ : ¬ w.heap.size = Q + 1 := by have := A.lt; have := A.hQ; omega
        clear n0 n1 n2 nf hI c0 c1 c2' e4
        cases hp : progB ss pn (st tl k).2.2 with
        | false =>
          have hno := Lib.hid (read_no HC.out hstop (by rw [KSS.out, KPN.out, hg, hp]; rfl))
          clear hstop hg hp
          go_wp2
          refine bodyPost_ret (v := .tuple #[progV none 0 0 0 none 0 0, .bool false]) (by simp [results, Tryz.results8, go_sem, n0', n1', n2']) rfl (.inr ⟨by rw [KTL.out]; exact hno.out, rfl, ?_⟩)
          exact ((hbl3.setCell (p := ⟨w.heap.size, 0, none⟩) (Nat.le_refl _) _).setCell (p := ⟨w.heap.size, 1, none⟩) (Nat.le_refl _) _).setCell (p := ⟨w.heap.size, 2, none⟩) (Nat.le_refl _) _
        | true =>
          have hyes := Lib.hid (read_yes HC.out hstop hg (by rw [KSS.out, KPN.out]; exact hp))
          clear hstop hg hp
          go_wp2
          have key : ∀ (base e size n : Nat) (v : Value) (xs : List Value), Q + 2 ≤ base → w2.ownsRow base e size v n xs → (((w3.setCell ⟨w.heap.size, 0, none⟩ (.slice a ss.length ca)).setCell ⟨w.heap.size, 1, none⟩ (.int .i64 pn)).setCell ⟨w.heap.size, 2, none⟩ (.slice a2 k c2)).ownsRow base e size v n xs := fun base e size n v xs hbase h =>
            have hlt : w.heap.size < base := by have := A.lt; have := A.hQ; omega
            ownsRow_setCell_below (ownsRow_setCell_below (ownsRow_setCell_below (own_keeps h hb3) (a := ⟨w.heap.size, 0, none⟩) hlt _) (a := ⟨w.heap.size, 1, none⟩) hlt _) (a := ⟨w.heap.size, 2, none⟩) hlt _
          have k1 := key _ _ _ _ _ _ (Nat.le_refl _) hov
          have k2 := key _ _ _ _ _ _ hM hoe
          have hbE := ((hbl3.setCell (p := ⟨w.heap.size, 0, none⟩) (Nat.le_refl _) (.slice a ss.length ca)).setCell (p := ⟨w.heap.size, 1, none⟩) (Nat.le_refl _) (.int .i64 pn)).setCell (p := ⟨w.heap.size, 2, none⟩) (Nat.le_refl _) (.slice a2 k c2)
          have hMs : M ≤ (((w3.setCell ⟨w.heap.size, 0, none⟩ (.slice a ss.length ca)).setCell ⟨w.heap.size, 1, none⟩ (.int .i64 pn)).setCell ⟨w.heap.size, 2, none⟩ (.slice a2 k c2)).heap.size := by
            rw [setCell_size, setCell_size, setCell_size]
            exact Nat.le_trans hMr hb3.size
          have hV : ValidT tl ss pn (st tl k).2.2 := by have := hyes.out; rw [KSS.out, KPN.out] at this; exact this
          clear key nf' hyes
          refine bodyPost_ret (v := .tuple #[progV a ss.length ca pn a2 k c2, .bool true]) (by simp [results, Tryz.results8, go_sem, n0', n1', n2']) rfl (.inl ⟨a, ca, a2, c2, ss, pn, (st tl k).2.2, M, by rw [KTL.out]; exact hV, by rw [hel], hca, by rw [hel]; exact hkc, by have := A.lt; have := A.hQ; omega, hMs, own_base k1 (by have := A.lt; have := A.hQ; omega), row_of_own k1 hav, by rw [hel]; exact k2, hbE⟩)
    | true =>
      by_cases hk24 : k ≤ 24
      · have hck : contR tl k = true := by rw [hq, hgo]; simpa using hk24
        have hc' : ∀ j, j < k + 1 → contR tl j = true := fun j hj => by
          rcases Nat.lt_or_ge j k with h | h
          · exact hc j h
          · rw [show j = k by omega]; exact hck
        have hst' : st tl (k + 1) = (edNext tl (st tl k).1, (st tl k).2.1 && edGood tl (st tl k).1, (st tl k).2.2 ++ [edAt tl (st tl k).1]) := rfl
        have HC' := Lib.hid hc'
        have HST := Lib.hid hst'
        clear hq hgo hc hck hc' hst'
        generalize (st tl k).1 = n at *
        generalize (st tl k).2.1 = g at *
        generalize (st tl k).2.2 = es at *
        obtain ⟨i0, hi, hz0, hz1', hz2⟩ := info_parts edgeInfo
        have e2 := A.box.edge
        go_wp2
        clear e3 e4 c0 c1
        have f2 : ∀ o, w1.frozen? ⟨Q + 1, o, none⟩ = false := A.pf
        have Ad := A.call (Below.drew (Below.refl _ _))
        have hMQ : Q + 1 < M := by omega
        have hBQ := A.hQ
        go_region_law (first
          | (go_simp; go_at_call 71; refine (readEdge B t _ _ _ w Ad.rd ht (by omega) hT (by have := A.lt; omega) Ad.below).mono ?_; rw [KTL.out]; rintro e w2 ⟨rfl, hr2, htw2⟩; have A2 := Ad.two htw2 hr2; have g2 := A2.p.2.2; have gf2 := A2.pf; have gz := A2.hz; have hoe2 := htw2.own (own_keeps hoe (Below.drew (Below.refl _ _))) (by omega); have hov2 := htw2.own (own_keeps hov (Below.drew (Below.refl _ _))) (by omega); have hMr2 : M ≤ w2.heap.size := Nat.le_trans hMr htw2.below.size)
          | (refine step_append_lies _ rfl (.tmp 26) (.tmp 30) 25 rfl M 44 i0 (.agg #[.int .i64 0, .int .i64 0, .int .i64 0, .string ⟨#[]⟩, .string ⟨#[]⟩]) 5 56 Tryz.underlying25 hi hz0 hz1' hz2 rfl (by decide) (.slice a2 k c2) k (edVals es) ?_ (hoe2.alloc _) ⟨w2.heap.size, 0, none⟩ 1 1 (edCells (edAt tl n)) ?_ rfl ?_ ?_ (by omega) ?_ ?_ ?_ _ rfl ?_
             · simp [Act.eval, Act.put]
             · simp [Act.eval, Act.put]
             · exact news_edge w2 (edAt tl n)
             · exact edCells_one _
             · unfold maxLen; omega
             · omega
             · exact Nat.le_trans hMr2 (by simp)
             intro v9 cap9 w9 hown9 hg9 hat9 hlt9
             have q9 := appended A2 hM hoe2 hov2 hav hg9
             have p9 := q9.1.p.2.2
             have pf9 := q9.1.pf))
        all_goals
          have hA' : All w B Q t (st tl (k + 1)).1 (st tl (k + 1)).2.1 (.slice a ss.length ca) (.int .i64 pn) (.slice (some ⟨v9, 0, none⟩) (k + 1) cap9) (w9.setCell ⟨Q + 1, 2, none⟩ (.slice (some ⟨v9, 0, none⟩) (k + 1) cap9)) := by
            rw [HST.out]
            exact q9.1.setP 2 _
          have hov' := ownsRow_setCell_below q9.2 (a := ⟨Q + 1, 2, none⟩) (by show Q + 1 < Q + 2; omega) (.slice (some ⟨v9, 0, none⟩) (k + 1) cap9)
          have hoe' : (w9.setCell ⟨Q + 1, 2, none⟩ (.slice (some ⟨v9, 0, none⟩) (k + 1) cap9)).ownsRow M 44 5 (.slice (some ⟨v9, 0, none⟩) (k + 1) cap9) (k + 1) (edVals (st tl (k + 1)).2.2) := by
            rw [HST.out, edVals_snoc]
            exact ownsRow_setCell_below hown9 (a := ⟨Q + 1, 2, none⟩) (by show Q + 1 < M; omega) _
          have hM' : M ≤ (w9.setCell ⟨Q + 1, 2, none⟩ (.slice (some ⟨v9, 0, none⟩) (k + 1) cap9)).heap.size := by
            rw [setCell_size]
            exact Nat.le_trans hMr2 (Nat.le_trans (by simp) hg9.size)
          have hme : 30 - lenV ((w9.setCell ⟨Q + 1, 2, none⟩ (.slice (some ⟨v9, 0, none⟩) (k + 1) cap9)).cell? ⟨Q + 1, 2, none⟩) < 30 - lenV (w1.cell? ⟨Q + 1, 2, none⟩) := by
            rw [World.cell?_setCell_same _ _ _ p9, c2']
            show 30 - (k + 1) < 30 - k
            omega
          go_roundw
          case rel => first | exact ⟨k + 1, _, HC'.out, hA', hov', hoe', hM'⟩ | ((repeat apply Exists.intro); exact ⟨⟨k + 1, _, HC'.out, hA', hov', hoe', hM'⟩, rfl⟩)
          case measure => exact hme
      · go_wp2_with fail
        have hstop : contR tl k = false := by rw [hq, hgo, decide_eq_false hk24]; rfl
        clear hq hgo e3
        refine (readGood B t _ _ _ A.rd).mono ?_
        rintro e w2 ⟨rfl, rfl⟩
        obtain ⟨n0, n1, n2⟩ := A.n
        have nf := A.nf
        have hsz : w.heap.size < w2.heap.size := by have := A.lt; have := A.hQ; have := A.hz; omega
        have hel : (st tl k).2.2.length = k := stR_length _ _ _ _
        have hvs : ss.length ≤ maxLen ∧ ∀ s ∈ ss, s.size ≤ maxLen := by
          have h1 := pc_length 59 tl 0
          rw [← KSS.out]
          refine ⟨?_, fun s hs => ?_⟩
          · have := pieces_length 32 (mkS (pc 59 tl 0))
            rw [show (mkS (pc 59 tl 0)).size = (pc 59 tl 0).length from mk_size _] at this
            unfold varsL maxLen
            omega
          · have := piece_size 32 (mkS (pc 59 tl 0)) s hs
            rw [show (mkS (pc 59 tl 0)).size = (pc 59 tl 0).length from mk_size _] at this
            unfold maxLen
            omega
        have HC := Lib.hid hc
        have HB := Lib.hid hvs
        clear hc hvs
        have hbl := A.below
        cases hg : (st tl k).2.1 with
        | false =>
          have hno := Lib.hid (read_no HC.out hstop (by rw [hg]; rfl))
          clear hstop hg
          go_wp2
          refine bodyPost_ret (v := .tuple #[progV none 0 0 0 none 0 0, .bool false]) (by simp [results, Tryz.results8, go_sem, n0, n1, n2]) rfl (.inr ⟨by rw [KTL.out]; exact hno.out, rfl, ?_⟩)
          exact ((hbl.setCell (p := ⟨w.heap.size, 0, none⟩) (Nat.le_refl _) _).setCell (p := ⟨w.heap.size, 1, none⟩) (Nat.le_refl _) _).setCell (p := ⟨w.heap.size, 2, none⟩) (Nat.le_refl _) _
        | true =>
          have hI := implIsProgram a a2 ca c2 ss pn (st tl k).2.2 w2 ⟨HB.out.1, HB.out.2, Row.owned hov⟩ ⟨by rw [hel]; unfold maxLen; omega, by have := Row.ownedN hoe; exact this⟩ (hT.names.keeps hbl)
          rw [hel] at hI
          go_wp2_with fail
          refine hI.mono ?_
          rintro e w3 ⟨rfl, hb3⟩
          have hbl3 := hbl.trans (hb3.mono hbl.size)
          obtain ⟨n0', n1', n2'⟩ := Box3.keep ⟨n0, n1, n2⟩ hsz hb3
          have nf' : ∀ o, w3.frozen? ⟨w.heap.size, o, none⟩ = false := fun o => (hb3.frozen (p := ⟨w.heap.size, o, none⟩) hsz).trans (nf o)
          obtain ⟨m0, m1, m2⟩ := A.p.keep A.hz hb3
          have hsz3 : w.heap.size < w3.heap.size := Nat.lt_of_lt_of_le hsz hb3.size
          have hNQ : ¬ w.heap.size = Q + 1 := by have := A.lt; have := A.hQ; omega
          clear n0 n1 n2 nf hI c0 c1 c2' e4
          cases hp : progB ss pn (st tl k).2.2 with
          | false =>
            have hno := Lib.hid (read_no HC.out hstop (by rw [KSS.out, KPN.out, hg, hp]; rfl))
            clear hstop hg hp
            go_wp2
            refine bodyPost_ret (v := .tuple #[progV none 0 0 0 none 0 0, .bool false]) (by simp [results, Tryz.results8, go_sem, n0', n1', n2']) rfl (.inr ⟨by rw [KTL.out]; exact hno.out, rfl, ?_⟩)
            exact ((hbl3.setCell (p := ⟨w.heap.size, 0, none⟩) (Nat.le_refl _) _).setCell (p := ⟨w.heap.size, 1, none⟩) (Nat.le_refl _) _).setCell (p := ⟨w.heap.size, 2, none⟩) (Nat.le_refl _) _
          | true =>
            have hyes := Lib.hid (read_yes HC.out hstop hg (by rw [KSS.out, KPN.out]; exact hp))
            clear hstop hg hp
            go_wp2
            have key : ∀ (base e size n : Nat) (v : Value) (xs : List Value), Q + 2 ≤ base → w2.ownsRow base e size v n xs → (((w3.setCell ⟨w.heap.size, 0, none⟩ (.slice a ss.length ca)).setCell ⟨w.heap.size, 1, none⟩ (.int .i64 pn)).setCell ⟨w.heap.size, 2, none⟩ (.slice a2 k c2)).ownsRow base e size v n xs := fun base e size n v xs hbase h =>
              have hlt : w.heap.size < base := by have := A.lt; have := A.hQ; omega
              ownsRow_setCell_below (ownsRow_setCell_below (ownsRow_setCell_below (own_keeps h hb3) (a := ⟨w.heap.size, 0, none⟩) hlt _) (a := ⟨w.heap.size, 1, none⟩) hlt _) (a := ⟨w.heap.size, 2, none⟩) hlt _
            have k1 := key _ _ _ _ _ _ (Nat.le_refl _) hov
            have k2 := key _ _ _ _ _ _ hM hoe
            have hbE := ((hbl3.setCell (p := ⟨w.heap.size, 0, none⟩) (Nat.le_refl _) (.slice a ss.length ca)).setCell (p := ⟨w.heap.size, 1, none⟩) (Nat.le_refl _) (.int .i64 pn)).setCell (p := ⟨w.heap.size, 2, none⟩) (Nat.le_refl _) (.slice a2 k c2)
            have hMs : M ≤ (((w3.setCell ⟨w.heap.size, 0, none⟩ (.slice a ss.length ca)).setCell ⟨w.heap.size, 1, none⟩ (.int .i64 pn)).setCell ⟨w.heap.size, 2, none⟩ (.slice a2 k c2)).heap.size := by
              rw [setCell_size, setCell_size, setCell_size]
              exact Nat.le_trans hMr hb3.size
            have hV : ValidT tl ss pn (st tl k).2.2 := by have := hyes.out; rw [KSS.out, KPN.out] at this; exact this
            clear key nf' hyes
            refine bodyPost_ret (v := .tuple #[progV a ss.length ca pn a2 k c2, .bool true]) (by simp [results, Tryz.results8, go_sem, n0', n1', n2']) rfl (.inl ⟨a, ca, a2, c2, ss, pn, (st tl k).2.2, M, by rw [KTL.out]; exact hV, by rw [hel], hca, by rw [hel]; exact hkc, by have := A.lt; have := A.hQ; omega, hMs, own_base k1 (by have := A.lt; have := A.hQ; omega), row_of_own k1 hav, by rw [hel]; exact k2, hbE⟩)
end Go.Proofs.YtabedmjaodinbaaGreatDoor
