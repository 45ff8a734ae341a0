/-
  What a statement makes of a heap, in plain words: a code, the variables' cells, the next cells (before lost cells are looked for). A heap whose rows are written: its variables' row, its cells' row.
-/
import Derived.Test.YtcgkaefacdblnaaDoorHeapV
import Derived.Test.YtcgkaefacdblnaaDoorHeaps
import Derived.Test.YtcgkaefacdblnaaDoorIsStmt
import Derived.Test.YtcgkaefacdblnaaDoorDrawBox
namespace Go.Proofs.YtcgkaefacdblnaaDoor
open Go Go.RowKit Go.ChangeShapes Go.WideShapes Go.ChangeAt

theorem three_boxL (w : World) (xs ys us : List Value) (t t' t'' : TypeId) : ∃ W0, ((w.alloc (.cells xs.toArray t)).alloc (.cells ys.toArray t')).alloc (.cells us.toArray t'') = W0 ∧ Below w.heap.size w W0 ∧ BoxL W0 w.heap.size xs ∧ BoxL W0 (w.heap.size + 1) ys ∧ BoxL W0 (w.heap.size + 2) us := by
  obtain ⟨W1, h1, hb1, b1, b2⟩ := two_boxL w xs ys t t'
  have h3 := BoxL.new W1 us t''
  have hs : W1.heap.size = w.heap.size + 2 := by rw [← h1]; simp
  have hb := (Below.refl W1.heap.size W1).alloc (Nat.le_refl _) (.cells us.toArray t'')
  rw [hs] at h3
  refine ⟨_, rfl, ?_, ?_, ?_, ?_⟩
  · rw [h1]; exact hb1.trans (hb.mono hb1.size)
  · rw [h1]; exact b1.below hb
  · rw [h1]; exact b2.below hb
  · rw [h1]; exact h3
abbrev Act3 := Int × List Int × List Int
def badC (k : Int) : Act3 := (k, [], [])
/-- The cells behind a freed one move up by one. -/
def lowC (c x : Int) : Int := if c < x then x - 1 else x
def freeS (pa : Nat) (vs zs : List Int) : Act3 :=
  if vs.getD pa (-1) = -1 then badC 2
  else if vs.getD pa (-1) ∈ vs.set pa (-1) ∨ vs.getD pa (-1) ∈ zs then badC 5
  else (0, (vs.set pa (-1)).map (lowC (vs.getD pa (-1))), (zs.eraseIdx (vs.getD pa (-1)).toNat).map (lowC (vs.getD pa (-1))))
def linkS (pa pb : Nat) (vs zs : List Int) : Act3 :=
  if vs.getD pa (-1) = -1 then badC 2
  else if vs.getD pa (-1) ∈ followed zs (vs.getD pb (-1)) then badC 3
  else (0, vs, zs.set (vs.getD pa (-1)).toNat (vs.getD pb (-1)))
def doS (k : Int) (pa pb : Nat) (vs zs : List Int) : Act3 :=
  if k = 1 then (0, vs, zs)
  else if k = 2 then (0, vs.set pa (-1), zs)
  else if k = 3 then if zs.length = 6 then badC 6 else (0, vs.set pa (zs.length : Int), zs ++ [-1])
  else if k = 4 then (0, vs.set pa (vs.getD pb (-1)), zs)
  else if k = 5 then if vs.getD pb (-1) = -1 then badC 2 else (0, vs.set pa (nextC zs (vs.getD pb (-1))), zs)
  else if k = 6 then if vs.getD pa (-1) = -1 then badC 2 else (0, vs, zs.set (vs.getD pa (-1)).toNat (-1))
  else if k = 7 then linkS pa pb vs zs
  else if k = 8 then freeS pa vs zs
  else if k = 9 then if vs.getD pa (-1) = -1 then (0, vs, zs) else badC 1
  else if k = 10 then if vs.getD pa (-1) = -1 then badC 1 else (0, vs, zs)
  else if k = 11 then if vs.getD pa (-1) = vs.getD pb (-1) then (0, vs, zs) else badC 1
  else if vs.getD pa (-1) = vs.getD pb (-1) then badC 1 else (0, vs, zs)
/-- A fault gives no heap; no list grows by more than one. -/
def Fine (vs zs : List Int) (r : Act3) : Prop := (r.1 ≠ 0 → r.2 = ([], [])) ∧ r.2.1.length ≤ vs.length ∧ r.2.2.length ≤ zs.length + 1
theorem fine_ite {vs zs : List Int} {c : Prop} [Decidable c] {x y : Act3} (h1 : Fine vs zs x) (h2 : Fine vs zs y) : Fine vs zs (if c then x else y) := by
  split
  · exact h1
  · exact h2
theorem fine_bad {vs zs : List Int} (k : Int) : Fine vs zs (badC k) := ⟨fun _ => rfl, Nat.zero_le _, Nat.zero_le _⟩
theorem fine_ok {vs zs vs' zs' : List Int} (h1 : vs'.length ≤ vs.length) (h2 : zs'.length ≤ zs.length + 1) : Fine vs zs (0, vs', zs') := ⟨fun h => absurd rfl h, h1, h2⟩
theorem doS_fine (k : Int) (pa pb : Nat) (vs zs : List Int) : Fine vs zs (doS k pa pb vs zs) := by
  unfold doS linkS freeS
  repeat' (first | exact fine_bad _ | apply fine_ite)
  all_goals refine fine_ok ?_ ?_
  all_goals first | (simp; done) | (simp only [List.length_map, List.length_eraseIdx]; split <;> omega)
theorem doS_bad {k : Int} {pa pb : Nat} {vs zs : List Int} (h : (doS k pa pb vs zs).1 ≠ 0) : doS k pa pb vs zs = badC (doS k pa pb vs zs).1 := Prod.ext rfl ((doS_fine k pa pb vs zs).1 h)

/-- What Exec comes to. -/
def execS (ss : List ByteArray) (k : Int) (a b : ByteArray) (vs zs : List Int) : Act3 :=
  if stmtB ss k a b = true ∧ heapB (ss.length : Int) vs zs = true then
    if (doS k (place ss a).toNat (place ss b).toNat vs zs).1 = 0 then
      if leakB (doS k (place ss a).toNat (place ss b).toNat vs zs).2.1 (doS k (place ss a).toNat (place ss b).toNat vs zs).2.2 = true then badC 4
      else (0, canonVs (doS k (place ss a).toNat (place ss b).toNat vs zs).2.1 (doS k (place ss a).toNat (place ss b).toNat vs zs).2.2, canonNs (doS k (place ss a).toNat (place ss b).toNat vs zs).2.1 (doS k (place ss a).toNat (place ss b).toNat vs zs).2.2)
    else badC (doS k (place ss a).toNat (place ss b).toNat vs zs).1
  else badC 7

/-- What a test of a heap says of its parts. -/
theorem heapB_parts {n : Int} {vs zs : List Int} (h : heapB n vs zs = true) : (1 ≤ vs.length ∧ vs.length ≤ 4 ∧ (vs.length : Int) = n) ∧ zs.length ≤ 6 ∧ goodB zs vs = true ∧ goodB zs zs = true ∧ acyc zs = true := by
  simp only [heapB, Bool.and_eq_true, decide_eq_true_eq] at h
  obtain ⟨⟨⟨h1, hg⟩, ha⟩, _⟩ := h
  exact ⟨⟨by omega, by omega, h1.2.2.1⟩, h1.2.2.2, (goodH_parts hg).1, (goodH_parts hg).2, ha⟩

theorem getD_at {l : List Int} {k : Nat} (h : k < l.length) : l.getD k (-1) = l[k] := by simp [h]

section
variable {lo hi : Nat} {W W' : World} {a b : Option Addr} {ca cb : Nat} {vs zs : List Int}
theorem HeapIn.setV {g k : Nat} (x : Int) (h : HeapIn lo hi W (some ⟨g, 0, none⟩) ca b cb (intVals vs) (intVals zs)) : HeapIn lo hi (W.setCell ⟨g, k, none⟩ (.int .i64 x)) (some ⟨g, 0, none⟩) ca b cb (intVals (vs.set k x)) (intVals zs) := by
  have ts := turn_set W g k (.int .i64 x)
  have el : (vs.set k x).length = vs.length := List.length_set
  have em : intVals (vs.set k x) = (intVals vs).set k (.int .i64 x) := by simp [intVals, List.map_set]
  have hv5 := h.v
  have hz5 := h.z
  have hap := h.apart
  have hap' := hap g (by rw [intVals_length]; rfl)
  refine ⟨?_, ⟨Nat.le_trans hz5.1 ts.size, own_other hz5.2.1 (grown_cell (i := k) (u := .int .i64 x) (grown_self W (some g))) (fun j hj e => hap' (e ▸ hj)), hz5.2.2⟩, ?_⟩
  · rw [intVals_length, el, em]
    rw [intVals_length] at hv5
    exact hv5.again (Nat.le_trans hv5.1 ts.size) (hv5.2.1.stored k (.int .i64 x)).1
  · rw [intVals_length, el]
    rw [intVals_length] at hap
    exact hap
theorem HeapIn.setZ {g k : Nat} (x : Int) (h : HeapIn lo hi W a ca (some ⟨g, 0, none⟩) cb (intVals vs) (intVals zs)) : HeapIn lo hi (W.setCell ⟨g, k, none⟩ (.int .i64 x)) a ca (some ⟨g, 0, none⟩) cb (intVals vs) (intVals (zs.set k x)) := by
  have ts := turn_set W g k (.int .i64 x)
  have el : (zs.set k x).length = zs.length := List.length_set
  have em : intVals (zs.set k x) = (intVals zs).set k (.int .i64 x) := by simp [intVals, List.map_set]
  have hv5 := h.v
  have hz5 := h.z
  have hap := h.apart
  refine ⟨⟨Nat.le_trans hv5.1 ts.size, own_other hv5.2.1 (grown_cell (i := k) (u := .int .i64 x) (grown_self W (some g))) (fun j hj e => hap j hj (by rw [intVals_length]; exact e.symm)), hv5.2.2⟩, ?_, ?_⟩
  · rw [intVals_length, el, em]
    rw [intVals_length] at hz5
    exact hz5.again (Nat.le_trans hz5.1 ts.size) (hz5.2.1.stored k (.int .i64 x)).1
  · rw [intVals_length, intVals_length, el]
    rw [intVals_length, intVals_length] at hap
    exact hap
/-- An own row of at least one cell has a block. -/
theorem OwnIn.block_ {e n c : Nat} {xs : List Value} (h : OwnIn lo hi W e 1 (.slice a n c) n xs) (hn : 0 < n) : ∃ g, a = some ⟨g, 0, none⟩ ∧ lo ≤ g ∧ g < hi := by
  rcases h.2.1.2 with ⟨_, h0⟩ | ⟨g, _, _, hv, hg, _⟩
  · omega
  · injection hv with hv _ _
    exact ⟨g, hv, hg, h.2.2 g (by rw [hv]; rfl)⟩
theorem OwnIn.cellInt {e c g : Nat} {xs : List Int} (h : OwnIn lo hi W e 1 (.slice (some ⟨g, 0, none⟩) (intVals xs).length c) (intVals xs).length (intVals xs)) (k : Nat) (hk : k < xs.length) : W.cell? ⟨g, k, none⟩ = some (.int .i64 xs[k]) := by
  have h1 := h.2.1.cells (g := g) rfl k _ (intVals_at xs k hk)
  rw [add_plain] at h1
  simpa using h1
theorem OwnIn.frozen_ {e n c g : Nat} {xs : List Value} (h : OwnIn lo hi W e 1 (.slice (some ⟨g, 0, none⟩) n c) n xs) (k : Nat) : W.frozen? ⟨g, k, none⟩ = false := h.2.1.frozenAt k
end

/-- The heap's blocks. -/
def blocksH (a b : Option Addr) (n ca m cb : Nat) (k : Nat) : Prop := (Value.slice a n ca).ownBlock = some k ∨ (Value.slice b m cb).ownBlock = some k
theorem blocksH_any {a b : Option Addr} {n ca m cb n' ca' m' cb' k : Nat} (h : blocksH a b n ca m cb k) : blocksH a b n' ca' m' cb' k := by
  cases a <;> cases b <;> exact h
/-- Only blocks from lo on, below hi, for which S holds, may have turned. -/
structure TurnB (lo hi : Nat) (S : Nat → Prop) (w w' : World) : Prop where
  t : Turn lo hi w w'
  o : ∀ k, k < w.heap.size → ¬ S k → w'.heap[k]? = w.heap[k]?
section
variable {lo hi : Nat} {S : Nat → Prop} {w W W' : World}
theorem TurnB.size (h : TurnB lo hi S w W) : w.heap.size ≤ W.heap.size := h.t.size
theorem TurnB.of_below (h : Below w.heap.size w W) : TurnB lo hi S w W := ⟨Turn.of_below h, fun k hk _ => h.block k hk⟩
theorem TurnB.trans (h : TurnB lo hi S w W) (k : TurnB lo hi S W W') : TurnB lo hi S w W' := ⟨h.t.trans k.t, fun j hj hd => (k.o j (Nat.lt_of_lt_of_le hj h.size) hd).trans (h.o j hj hd)⟩
/-- What is written at blocks that are new to w. -/
theorem TurnB.setNew (t : TurnB lo hi S w W) {Q i : Nat} {u : Value} (hQ : w.heap.size ≤ Q) : TurnB lo hi S w (W.setCell ⟨Q, i, none⟩ u) :=
  ⟨⟨t.t.os, t.t.tape, t.t.output, by simpa using t.size, fun k hk hd => (Below.heap_setCell _ _ _ _ (by show k ≠ Q; omega)).trans (t.t.block k hk hd)⟩,
    fun k hk hd => (Below.heap_setCell _ _ _ _ (by show k ≠ Q; omega)).trans (t.o k hk hd)⟩
theorem TurnB.draws (h : TurnB lo hi S w W) : TurnB lo hi S w W.drew := h.trans (TurnB.of_below (Below.drew (Below.refl _ _)))
theorem TurnB.of_one {q : Nat} (t : Turn q (q + 1) w W) (h1 : lo ≤ q) (h2 : q < hi) (hS : S q) : TurnB lo hi S w W :=
  ⟨t.mono h1 (by omega), fun k hk hd => t.block k hk (by have : k ≠ q := fun e => hd (e ▸ hS); omega)⟩
theorem turnB_at {g k : Nat} (u : Value) (h1 : lo ≤ g) (h2 : g < hi) (hS : S g) : TurnB lo hi S w (w.setCell ⟨g, k, none⟩ u) := TurnB.of_one (turn_set w g k u) h1 h2 hS
theorem TurnB.of_grown {r : Option Nat} (h : w.grownBy W r) (hr : ∀ k, r = some k → lo ≤ k ∧ k < hi ∧ S k) : TurnB lo hi S w W :=
  ⟨Turn.of_grown h fun k hk => ⟨(hr k hk).1, (hr k hk).2.1⟩, fun k hk hd => h.block k hk fun e => hd (hr k e.symm).2.2⟩
theorem BoxL.turnB {g : Nat} {xs : List Value} (h : BoxL w g xs) (t : TurnB lo hi S w W) (hd : ¬ S g) : BoxL W g xs :=
  ⟨fun i x hx => (World.cell?_of_block (t.o g h.lt hd)).trans (h.c i x hx), fun o => (World.frozen?_of_block (t.o g h.lt hd)).trans (h.f o), Nat.lt_of_lt_of_le h.lt t.size⟩
end

/-- A statement's action on a heap that may be written: what it answers, and that only the heap's blocks (S) have turned. -/
def Acted (lo hi : Nat) (S : Nat → Prop) (r : Act3) (w : World) (e : Ending) (w' : World) : Prop :=
  ∃ a ca b cb, e = .returned (.tuple #[heV a r.2.1.length ca b r.2.2.length cb, .int .i64 r.1]) ∧ HeapIn lo w'.heap.size w' a ca b cb (intVals r.2.1) (intVals r.2.2) ∧ TurnB lo hi S w w' ∧ (∀ k, blocksH a b r.2.1.length ca r.2.2.length cb k → S k ∨ w.heap.size ≤ k)
theorem heapIn_nil {lo hi : Nat} {W : World} (h : hi ≤ W.heap.size) : HeapIn lo hi W none 0 none 0 (intVals []) (intVals []) :=
  ⟨⟨h, World.ownsRow_nil _ _ _ _, fun k hk => by cases hk⟩, ⟨h, World.ownsRow_nil _ _ _ _, fun k hk => by cases hk⟩, fun j hj => by cases hj⟩
theorem acted_bad {lo hi : Nat} {S : Nat → Prop} {k : Int} {w w' : World} (h : TurnB lo hi S w w') : Acted lo hi S (badC k) w (.returned (.tuple #[heV none 0 0 none 0 0, .int .i64 k])) w' :=
  ⟨none, 0, none, 0, rfl, heapIn_nil (Nat.le_refl _), h, fun k hk => by rcases hk with hk | hk <;> cases hk⟩
end Go.Proofs.YtcgkaefacdblnaaDoor
