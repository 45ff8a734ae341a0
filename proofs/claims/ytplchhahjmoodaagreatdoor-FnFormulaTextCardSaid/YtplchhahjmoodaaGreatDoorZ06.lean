/-
  Rows that lie between two blocks: what turns elsewhere leaves them. Nothing here knows of the program.
-/
import Derived.Lib.QuietBelow
import Derived.Test.YtplchhahjmoodaaGreatDoorZ02
namespace Go.Proofs.YtplchhahjmoodaaGreatDoor
open Go Go.RowKit Go.WideShapes Go.Sort

/-- Only blocks from lo on, below hi, may have turned; new ones may be there. -/
structure Turn (lo hi : Nat) (W W' : World) : Prop where
  os : W'.os = W.os
  tape : W'.tape = W.tape
  output : W'.output = W.output
  size : W.heap.size ≤ W'.heap.size
  block : ∀ k, k < W.heap.size → (k < lo ∨ hi ≤ k) → W'.heap[k]? = W.heap[k]?
theorem Turn.refl (lo hi : Nat) (W : World) : Turn lo hi W W := ⟨rfl, rfl, rfl, Nat.le_refl _, fun _ _ _ => rfl⟩
theorem Turn.of_below {lo hi : Nat} {W W' : World} (h : Below W.heap.size W W') : Turn lo hi W W' := ⟨h.os, h.tape, h.output, h.size, fun k hk _ => h.block k hk⟩
theorem Turn.of_grown {lo hi : Nat} {W W' : World} {r : Option Nat} (h : W.grownBy W' r) (hr : ∀ k, r = some k → lo ≤ k ∧ k < hi) : Turn lo hi W W' :=
  ⟨h.os, h.tape, h.output, h.size, fun k hk hd => h.block k hk fun e => by have := hr k e.symm; omega⟩
theorem Turn.trans {lo hi : Nat} {W W' W'' : World} (h : Turn lo hi W W') (k : Turn lo hi W' W'') : Turn lo hi W W'' :=
  ⟨k.os.trans h.os, k.tape.trans h.tape, k.output.trans h.output, Nat.le_trans h.size k.size, fun j hj hd => (k.block j (Nat.lt_of_lt_of_le hj h.size) hd).trans (h.block j hj hd)⟩
theorem Turn.below {B lo hi : Nat} {w W W' : World} (h : Below B w W) (t : Turn lo hi W W') (hB : B ≤ lo) (hs : B ≤ W.heap.size) : Below B w W' :=
  ⟨t.os.trans h.os, t.tape.trans h.tape, t.output.trans h.output, Nat.le_trans h.size t.size, fun k hk => (t.block k (by omega) (.inl (by omega))).trans (h.block k hk)⟩
theorem Turn.mono {lo hi lo' hi' : Nat} {W W' : World} (h : Turn lo hi W W') (h1 : lo' ≤ lo) (h2 : hi ≤ hi') : Turn lo' hi' W W' :=
  ⟨h.os, h.tape, h.output, h.size, fun k hk hd => h.block k hk (by omega)⟩

/-- A row in blocks from lo on, below hi: it may be read. -/
def RowIn (lo hi : Nat) (W : World) (a : Option Addr) (xs : List Value) : Prop := hi ≤ W.heap.size ∧ ∀ k x, xs[k]? = some x → ∃ b o, a = some ⟨b, o, none⟩ ∧ lo ≤ b ∧ b < hi ∧ W.cell? ⟨b, o + k, none⟩ = some x
theorem RowIn.row {lo hi : Nat} {W : World} {a : Option Addr} {xs : List Value} (h : RowIn lo hi W a xs) : Row W W.heap.size a xs := fun k x hx => by
  obtain ⟨b, o, e, _, h2, hc⟩ := h.2 k x hx
  exact ⟨b, o, e, Nat.lt_of_lt_of_le h2 h.1, hc⟩
theorem RowIn.turn {lo hi lo' hi' : Nat} {W W' : World} {a : Option Addr} {xs : List Value} (h : RowIn lo hi W a xs) (t : Turn lo' hi' W W') (hd : hi ≤ lo' ∨ hi' ≤ lo) : RowIn lo hi W' a xs := by
  refine ⟨Nat.le_trans h.1 t.size, fun k x hx => ?_⟩
  obtain ⟨b, o, e, h1, h2, hc⟩ := h.2 k x hx
  exact ⟨b, o, e, h1, h2, (World.cell?_of_block (t.block b (Nat.lt_of_lt_of_le h2 h.1) (by omega))).trans hc⟩
theorem RowIn.below {lo hi : Nat} {W W' : World} {a : Option Addr} {xs : List Value} (h : RowIn lo hi W a xs) (hb : Below W.heap.size W W') : RowIn lo hi W' a xs := h.turn (lo' := hi) (hi' := hi) (Turn.of_below hb) (.inl (Nat.le_refl _))

theorem RowIn.grown {lo hi : Nat} {W W' : World} {a : Option Addr} {xs : List Value} {r : Option Nat} (h : RowIn lo hi W a xs) (hg : W.grownBy W' r) (hr : ∀ k, r = some k → k < lo ∨ hi ≤ k) : RowIn lo hi W' a xs := by
  refine ⟨Nat.le_trans h.1 hg.size, fun k x hx => ?_⟩
  obtain ⟨b, o, e, h1, h2, hc⟩ := h.2 k x hx
  exact ⟨b, o, e, h1, h2, (World.cell?_of_block (hg.block b (Nat.lt_of_lt_of_le h2 h.1) fun e => by have := hr b e.symm; omega)).trans hc⟩

/-- A row that a call made, in blocks from lo on, below hi: it may be written. -/
def OwnIn (lo hi : Nat) (W : World) (e : TypeId) (size : Nat) (v : Value) (n : Nat) (xs : List Value) : Prop := hi ≤ W.heap.size ∧ W.ownsRow lo e size v n xs ∧ ∀ k, v.ownBlock = some k → k < hi
section
variable {lo hi lo' hi' : Nat} {W W' : World} {e size n : Nat} {v : Value} {xs ys : List Value}
theorem OwnIn.of (h : W.ownsRow lo e size v n xs) : OwnIn lo W.heap.size W e size v n xs := ⟨Nat.le_refl _, h, fun k hk => (h.lt k hk).2⟩
theorem OwnIn.turn (h : OwnIn lo hi W e size v n xs) (t : Turn lo' hi' W W') (hd : hi ≤ lo' ∨ hi' ≤ lo) : OwnIn lo hi W' e size v n xs := by
  refine ⟨Nat.le_trans h.1 t.size, ⟨h.2.1.1, h.2.1.2.imp id ?_⟩, h.2.2⟩
  rintro ⟨g, cap, cur, rfl, hb, hgc, r⟩
  have hlt := (h.2.1.lt g rfl)
  have := h.2.2 g rfl
  exact ⟨g, cap, cur, rfl, hb, (t.block g hlt.2 (by omega)).trans hgc, r⟩
theorem OwnIn.below (h : OwnIn lo hi W e size v n xs) (hb : Below W.heap.size W W') : OwnIn lo hi W' e size v n xs := h.turn (lo' := hi) (hi' := hi) (Turn.of_below hb) (.inl (Nat.le_refl _))
theorem OwnIn.mono (h : OwnIn lo hi W e size v n xs) (h1 : lo' ≤ lo) (h2 : hi ≤ hi') (h3 : hi' ≤ W.heap.size) : OwnIn lo' hi' W e size v n xs := ⟨h3, own_base h.2.1 h1, fun k hk => Nat.lt_of_lt_of_le (h.2.2 k hk) h2⟩
theorem OwnIn.again (h : OwnIn lo hi W e size v n xs) (hg : hi ≤ W'.heap.size) (h' : W'.ownsRow lo e size v n ys) : OwnIn lo hi W' e size v n ys := ⟨hg, h', h.2.2⟩
theorem OwnIn.grows (h : OwnIn lo hi W e size v n xs) (hg : W.grownBy W' v.ownBlock) : Turn lo hi W W' := Turn.of_grown hg fun k hk => ⟨(h.2.1.lt k hk).1, h.2.2 k hk⟩
end
theorem OwnIn.rowIn {lo hi : Nat} {W : World} {e n : Nat} {a : Option Addr} {c : Nat} {size : Nat} {xs : List Value} (h : OwnIn lo hi W e size (.slice a n c) n xs) : RowIn lo hi W a xs := by
  refine ⟨h.1, fun k x hx => ?_⟩
  obtain ⟨hl, ho⟩ := h.2.1
  rcases ho with ⟨hv, hn⟩ | ⟨g, cap, cur, hv, hg0, hg, _⟩
  · rw [hn, Nat.zero_mul] at hl
    rw [List.eq_nil_of_length_eq_zero hl] at hx
    simp at hx
  · injection hv with ha _ _
    have hblk := h.2.2 g (by rw [ha]; rfl)
    refine ⟨g, 0, ha, hg0, hblk, ?_⟩
    have hc := h.2.1.cells (g := g) (by subst ha; rfl) k x hx
    rw [add_plain] at hc
    exact hc
theorem OwnIn.row {lo hi : Nat} {W : World} {e n : Nat} {a : Option Addr} {c : Nat} {size : Nat} {xs : List Value} (h : OwnIn lo hi W e size (.slice a n c) n xs) : Row W W.heap.size a xs := h.rowIn.row
theorem OwnIn.form {lo hi : Nat} {W : World} {e size n : Nat} {v : Value} {xs : List Value} (h : OwnIn lo hi W e size v n xs) : ∃ a c, v = .slice a n c ∧ n ≤ c := by
  rcases h.2.1.2 with ⟨rfl, rfl⟩ | ⟨g, cap, cur, rfl, _, _, hc, _⟩
  · exact ⟨_, _, rfl, Nat.le_refl _⟩
  · exact ⟨_, _, rfl, hc⟩

/-- It returned x; nothing old has turned. -/
def GaveX (x : Value) (w : World) (e : Ending) (w' : World) : Prop := e = .returned x ∧ Below w.heap.size w w'
/-- .. met in a region that draws its order. -/
theorem at_again {P : Program} {f : FuncId} {args : Array Value} {w : World} {d : Nat} {os : Array Obj} {v : Value} (h : Calls P f args (grow (redrawn w d) os) (GaveX v (grow (redrawn w d) os))) :
    Calls P f args (grow (redrawn w d) os) fun e w'' => e = .returned v ∧ ∃ p : Regrown, w'' = grow (redrawn w p.d) p.os := Calls.regrown_of h
theorem same_again {P : Program} {f : FuncId} {args : Array Value} {w : World} {d : Nat} {os : Array Obj} {v : Value} (h : Calls P f args (grow (redrawn w d) os) fun e w' => e = .returned v ∧ grow (redrawn w d) os = w') :
    Calls P f args (grow (redrawn w d) os) fun e w'' => e = .returned v ∧ ∃ p : Regrown, w'' = grow (redrawn w p.d) p.os :=
  Calls.regrown_of (h.mono fun _ _ ⟨he, hw⟩ => ⟨he, hw ▸ Below.refl _ _⟩)
theorem row_again {w : World} {a : Option Addr} {xs : List Value} (h : Row w w.heap.size a xs) (d : Nat) (os : Array Obj) : Row (grow (redrawn w d) os) (grow (redrawn w d) os).heap.size a xs :=
  (h.below (below_regrown w d os)).grow (below_regrown w d os).size
end Go.Proofs.YtplchhahjmoodaaGreatDoor
