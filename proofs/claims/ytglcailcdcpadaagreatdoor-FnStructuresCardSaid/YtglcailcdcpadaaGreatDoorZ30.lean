/-
  The model's structure of a heap.
-/
import Derived.Deep.RegionLaw
import Derived.Deep.AppendLies
import Derived.Test.YtglcailcdcpadaaGreatDoorZ24
import Derived.Test.YtglcailcdcpadaaGreatDoorZ13
import Derived.Test.YtglcailcdcpadaaGreatDoorZ22
import Derived.Test.YtglcailcdcpadaaGreatDoorZ08
namespace Go.Proofs.YtglcailcdcpadaaGreatDoor
open Go Go.RowKit Go.Sort Go.ChangeAt Go.ChangeShapes Go.WideShapes

theorem specL3 (b : Bool) (w : World) : Calls Tryz.prog 119 #[.bool b] w (GaveX (.int .i64 (l3 b)) w) := by
  cases b
  all_goals
    go_enter Tryz.func119, Tryz.ntmps119
    go_wp2
    go_ret
    exact ⟨rfl, Below.refl _ _⟩
/-- A structure that a call made. -/
def MadeSt (s : SBody) (w : World) (e : Ending) (w' : World) : Prop := ∃ x : St, x.body = s ∧ e = .returned x.v ∧ x.In w.heap.size w'.heap.size w' ∧ Below w.heap.size w w'
theorem nodeInfoS : (Tryz.prog.info? 56).map (fun i => (i.zero, i.size, i.bytes)) = some (some (.agg #[.slice none 0 0, .slice none 0 0, .int .i64 0, .int .i64 0]), 4, 64) := by kernel_rfl
theorem lit4_news (w : World) (t : TypeId) (u0 u1 u2 u3 : Value) : ∀ (j : Nat) (u : Value), [u0, u1, u2, u3][j]? = some u → (w.alloc (.cells #[u0, u1, u2, u3] t)).cell? ((⟨w.heap.size, 0, none⟩ : Addr).add j) = some u := by
  intro j u hu
  have h := (BoxL.new w [u0, u1, u2, u3] t).c j u hu
  rw [add_plain, Nat.zero_add]
  exact h
theorem lit4_one (a b : Option Addr) (n ca m cb : Nat) (s q : Int) : ∀ u ∈ [Value.slice a n ca, .slice b m cb, .int .i64 s, .int .i64 q], u.oneCell' = true := by
  intro u hu
  simp only [List.mem_cons, List.not_mem_nil, or_false] at hu
  rcases hu with rfl | rfl | rfl | rfl <;> rfl
theorem map_take_at {α β : Type} (f : α → β) (l : List α) (k : Nat) (h : k < l.length) : (l.map f).take (k + 1) = (l.map f).take k ++ [f l[k]] := by
  rw [take_next _ k (by simpa using h)]
  simp
/-- What the walk keeps beside the structure so far: the argument's box, the answer's. -/
structure Sw (w : World) (u0 u1 : Value) (W : World) : Prop where
  below : Below w.heap.size w W
  arg : BoxL W w.heap.size [u0, u1]
  res : BoxL W (w.heap.size + 1) [.slice none 0 0, .slice none 0 0]
section
variable {w W W' : World} {u0 u1 : Value} {lo hi : Nat}
theorem Sw.turn (h : Sw w u0 u1 W) (t : Turn lo hi W W') (hl : w.heap.size + 2 ≤ lo) : Sw w u0 u1 W' :=
  ⟨t.below h.below (by omega) h.below.size, h.arg.turn t (.inl (by omega)), h.res.turn t (.inl (by omega))⟩
theorem Sw.call (h : Sw w u0 u1 W) (hb : Below W.heap.size W W') : Sw w u0 u1 W' :=
  ⟨h.below.trans (hb.mono h.below.size), h.arg.below hb, h.res.below hb⟩
end
/-- A node in the making: its box, and its rows behind it. -/
structure Nw (Q : Nat) (va : Option Addr) (ca : Nat) (vb : Option Addr) (cb : Nat) (p q : List Int) (s : Int) (W : World) : Prop where
  box : BoxL W Q [.slice va p.length ca, .slice vb q.length cb, .int .i64 s, .int .i64 0]
  v : OwnIn (Q + 1) W.heap.size W 3 1 (.slice va p.length ca) p.length (intVals p)
  z : OwnIn (Q + 1) W.heap.size W 3 1 (.slice vb q.length cb) q.length (intVals q)
  ap : ∀ j, (Value.slice va p.length ca).ownBlock = some j → (Value.slice vb q.length cb).ownBlock ≠ some j
section
variable {Q ca cb lo hi : Nat} {va vb : Option Addr} {p q : List Int} {s z : Int} {W W' : World}
theorem OwnIn.up {e size n : Nat} {v : Value} {xs : List Value} (h : OwnIn lo W.heap.size W e size v n xs) (hb : Below W.heap.size W W') : OwnIn lo W'.heap.size W' e size v n xs :=
  (h.below hb).mono (Nat.le_refl _) hb.size (Nat.le_refl _)
theorem Nw.call (h : Nw Q va ca vb cb p q s W) (hb : Below W.heap.size W W') : Nw Q va ca vb cb p q s W' := ⟨h.box.below hb, h.v.up hb, h.z.up hb, h.ap⟩
theorem Nw.turn (h : Nw Q va ca vb cb p q s W) (t : Turn lo hi W W') (hl : hi ≤ Q) : Nw Q va ca vb cb p q s W' :=
  ⟨h.box.turn t (.inr hl), (h.v.turn t (.inr (by omega))).mono (Nat.le_refl _) t.size (Nat.le_refl _), (h.z.turn t (.inr (by omega))).mono (Nat.le_refl _) t.size (Nat.le_refl _), h.ap⟩
theorem Nw.in_ (h : Nw Q va ca vb cb p q s W) : Hp.In (Q + 1) W.heap.size W ⟨va, ca, vb, cb, p, q⟩ := Hp.In.of_pair h.v h.z h.ap
theorem loc_ne {v v' w' : Value} {M : Nat} (hat : v'.ownBlock = v.ownBlock ∨ v'.ownBlock = some M) (h : ∀ j, v.ownBlock = some j → w'.ownBlock ≠ some j) (hl : ∀ j, w'.ownBlock = some j → j < M) : ∀ j, v'.ownBlock = some j → w'.ownBlock ≠ some j := by
  intro j hj hw
  rcases hat with e | e
  · exact h j (e ▸ hj) hw
  · rw [e] at hj
    have := hl j hw
    have := Option.some.inj hj
    omega
/-- One number more in the first row. -/
theorem Nw.first (h : Nw Q va ca vb cb p q s W) {a' : Option Addr} {c' : Nat} (hown : W'.ownsRow (Q + 1) 3 1 (.slice a' (p.length + 1) c') (p.length + 1) (intVals p ++ [.int .i64 z])) (hg : W.grownBy W' (Value.slice va p.length ca).ownBlock)
    (hat : (Value.slice a' (p.length + 1) c').ownBlock = (Value.slice va p.length ca).ownBlock ∨ (Value.slice a' (p.length + 1) c').ownBlock = some W.heap.size) :
    Nw Q a' c' vb cb (p ++ [z]) q s (W'.setCell ⟨Q, 0, none⟩ (.slice a' (p.length + 1) c')) := by
  have hl : (p ++ [z]).length = p.length + 1 := by simp
  have hm : intVals (p ++ [z]) = intVals p ++ [.int .i64 z] := intVals_snoc _ _
  have hgb : BoxL W' Q [.slice va p.length ca, .slice vb q.length cb, .int .i64 s, .int .i64 0] := h.box.turn (Turn.of_grown (lo := Q + 1) (hi := W.heap.size) hg fun k hk => ⟨(h.v.2.1.lt k hk).1, (h.v.2.1.lt k hk).2⟩) (.inl (Nat.lt_succ_self Q))
  have ts := turn_set W' Q 0 (.slice a' (p.length + 1) c')
  have hv := OwnIn.of hown
  have hz := (h.z.same hg.size fun k hk => hg.block k (h.z.2.2 k hk) fun e => h.ap k e.symm hk).mono (Nat.le_refl _) hg.size (Nat.le_refl _)
  refine ⟨?_, ?_, ?_, ?_⟩
  · rw [hl]; exact hgb.set 0 _
  · rw [hl, hm]; exact (hv.turn ts (.inr (Nat.le_refl _))).mono (Nat.le_refl _) ts.size (Nat.le_refl _)
  · exact (hz.turn ts (.inr (Nat.le_refl _))).mono (Nat.le_refl _) ts.size (Nat.le_refl _)
  · rw [hl]; exact loc_ne (M := W.heap.size) hat h.ap fun j hj => h.z.2.2 j hj
theorem Nw.box1 (h : Nw Q va ca vb cb p q s W) (hg : W.grownBy W' (Value.slice va p.length ca).ownBlock) : BoxL W' Q [.slice va p.length ca, .slice vb q.length cb, .int .i64 s, .int .i64 0] :=
  h.box.turn (Turn.of_grown (lo := Q + 1) (hi := W.heap.size) hg fun k hk => ⟨(h.v.2.1.lt k hk).1, (h.v.2.1.lt k hk).2⟩) (.inl (Nat.lt_succ_self Q))
theorem Nw.box2 (h : Nw Q va ca vb cb p q s W) (hg : W.grownBy W' (Value.slice vb q.length cb).ownBlock) : BoxL W' Q [.slice va p.length ca, .slice vb q.length cb, .int .i64 s, .int .i64 0] :=
  h.box.turn (Turn.of_grown (lo := Q + 1) (hi := W.heap.size) hg fun k hk => ⟨(h.z.2.1.lt k hk).1, (h.z.2.1.lt k hk).2⟩) (.inl (Nat.lt_succ_self Q))
/-- .. in the second one. -/
theorem Nw.second (h : Nw Q va ca vb cb p q s W) {b' : Option Addr} {c' : Nat} (hown : W'.ownsRow (Q + 1) 3 1 (.slice b' (q.length + 1) c') (q.length + 1) (intVals q ++ [.int .i64 z])) (hg : W.grownBy W' (Value.slice vb q.length cb).ownBlock)
    (hat : (Value.slice b' (q.length + 1) c').ownBlock = (Value.slice vb q.length cb).ownBlock ∨ (Value.slice b' (q.length + 1) c').ownBlock = some W.heap.size) :
    Nw Q va ca b' c' p (q ++ [z]) s (W'.setCell ⟨Q, 1, none⟩ (.slice b' (q.length + 1) c')) := by
  have hl : (q ++ [z]).length = q.length + 1 := by simp
  have hm : intVals (q ++ [z]) = intVals q ++ [.int .i64 z] := intVals_snoc _ _
  have hgb : BoxL W' Q [.slice va p.length ca, .slice vb q.length cb, .int .i64 s, .int .i64 0] := h.box.turn (Turn.of_grown (lo := Q + 1) (hi := W.heap.size) hg fun k hk => ⟨(h.z.2.1.lt k hk).1, (h.z.2.1.lt k hk).2⟩) (.inl (Nat.lt_succ_self Q))
  have ts := turn_set W' Q 1 (.slice b' (q.length + 1) c')
  have hv := OwnIn.of hown
  have hz := (h.v.same hg.size fun k hk => hg.block k (h.v.2.2 k hk) fun e => h.ap k hk e.symm).mono (Nat.le_refl _) hg.size (Nat.le_refl _)
  refine ⟨?_, ?_, ?_, ?_⟩
  · rw [hl]; exact hgb.set 1 _
  · exact (hz.turn ts (.inr (Nat.le_refl _))).mono (Nat.le_refl _) ts.size (Nat.le_refl _)
  · rw [hl, hm]; exact (hv.turn ts (.inr (Nat.le_refl _))).mono (Nat.le_refl _) ts.size (Nat.le_refl _)
  · rw [hl]
    intro j hj hw
    exact loc_ne (M := W.heap.size) hat (fun j h1 h2 => h.ap j h2 h1) (fun j hj => h.v.2.2 j hj) j hw hj
end
/-- What the walk of a node keeps: the boxes, the structure so far. -/
structure Wd (w : World) (u0 u1 : Value) (Q M : Nat) (x : St) (W : World) : Prop where
  s : Sw w u0 u1 W
  bx : BoxL W Q [x.va, x.vb]
  xin : x.In (Q + 1) M W
section
variable {w W W' : World} {u0 u1 : Value} {Q M lo hi : Nat} {x : St}
theorem Wd.call (h : Wd w u0 u1 Q M x W) (hb : Below W.heap.size W W') : Wd w u0 u1 Q M x W' := ⟨h.s.call hb, h.bx.below hb, h.xin.below hb⟩
theorem Wd.turn (h : Wd w u0 u1 Q M x W) (t : Turn lo hi W W') (hl : M ≤ lo) (hq : Q < M) (hw : w.heap.size + 2 ≤ Q) : Wd w u0 u1 Q M x W' := ⟨h.s.turn t (by omega), h.bx.turn t (.inl (by omega)), h.xin.turn t (.inl hl)⟩
end
/-- The structure so far, in its box. -/
structure Sg (Q : Nat) (x : St) (W : World) : Prop where
  box : BoxL W Q [x.va, x.vb]
  in_ : x.In (Q + 1) W.heap.size W
theorem Sg.call {Q : Nat} {x : St} {W W' : World} (h : Sg Q x W) (hb : Below W.heap.size W W') : Sg Q x W' := ⟨h.box.below hb, (h.in_.below hb).mono (Nat.le_refl _) hb.size (Nat.le_refl _)⟩
section
variable {Q lo hi : Nat} {x : St} {W W' : World}
theorem Sg.turn (h : Sg Q x W) (t : Turn lo hi W W') (hd : hi ≤ Q) : Sg Q x W' := ⟨h.box.turn t (.inr hd), (h.in_.turn t (.inr (by omega))).mono (Nat.le_refl _) t.size (Nat.le_refl _)⟩
theorem Sg.boxg {v : Value} (h : Sg Q x W) (hg : W.grownBy W' v.ownBlock) (hv : ∀ k, v.ownBlock = some k → Q < k) : BoxL W' Q [x.va, x.vb] :=
  h.box.turn (Turn.of_grown (lo := Q + 1) (hi := W'.heap.size + Q + W.heap.size + 1 + (v.ownBlock.getD 0)) hg fun k hk => ⟨hv k hk, by rw [hk]; show k < _ + k; omega⟩) (.inl (Nat.lt_succ_self Q))
/-- One pair more. -/
theorem Sg.pair {z : Int} (h : Sg Q x W) {b' : Option Addr} {c' : Nat} (hown : W'.ownsRow (Q + 1) 3 1 (.slice b' (x.zs.length + 1) c') (x.zs.length + 1) (intVals x.zs ++ [.int .i64 z])) (hg : W.grownBy W' x.vb.ownBlock)
    (hat : (Value.slice b' (x.zs.length + 1) c').ownBlock = x.vb.ownBlock ∨ (Value.slice b' (x.zs.length + 1) c').ownBlock = some W.heap.size) :
    Sg Q { x with b := b', cb := c', zs := x.zs ++ [z] } (W'.setCell ⟨Q, 1, none⟩ (.slice b' (x.zs.length + 1) c')) := by
  have hin := h.in_.pair (z := z) (by rw [intVals_snoc]; exact hown) hg hat
  have hb := (h.boxg hg fun k hk => (h.in_.next.2.1.lt k hk).1).set 1 (.slice b' (x.zs.length + 1) c')
  have ts := turn_set W' Q 1 (.slice b' (x.zs.length + 1) c')
  refine ⟨?_, (hin.turn ts (.inr (Nat.le_refl _))).mono (Nat.le_refl _) ts.size (Nat.le_refl _)⟩
  simp only [St.va, St.vb, List.length_append, List.length_cons, List.length_nil, Nat.zero_add]
  exact hb
/-- One node more. -/
theorem Sg.push {y : Nd} {m M : Nat} (h : Sg Q x W) (hx : x.In (Q + 1) M W) (hy : y.h.In m W.heap.size W) (hm : M ≤ m) (hlm : Q + 1 ≤ m) {a' : Option Addr} {c' : Nat}
    (hown : W'.ownsRow (Q + 1) 56 4 (.slice a' (x.ns.length + 1) c') (x.ns.length + 1) (ndVals x.ns ++ ndCells y)) (hg : W.grownBy W' x.va.ownBlock)
    (hat : (Value.slice a' (x.ns.length + 1) c').ownBlock = x.va.ownBlock ∨ (Value.slice a' (x.ns.length + 1) c').ownBlock = some W.heap.size) :
    Sg Q { x with a := a', ca := c', ns := x.ns ++ [y] } (W'.setCell ⟨Q, 0, none⟩ (.slice a' (x.ns.length + 1) c')) := by
  have hin := hx.push hy hm hlm (by rw [show ndVals (x.ns ++ [y]) = ndVals x.ns ++ ndCells y from fl_snoc x.ns y]; exact hown) hg hat
  have hb := (h.boxg hg fun k hk => (hx.nodes.2.1.lt k hk).1).set 0 (.slice a' (x.ns.length + 1) c')
  have ts := turn_set W' Q 0 (.slice a' (x.ns.length + 1) c')
  refine ⟨?_, (hin.turn ts (.inr (Nat.le_refl _))).mono (Nat.le_refl _) ts.size (Nat.le_refl _)⟩
  simp only [St.va, St.vb, List.length_append, List.length_cons, List.length_nil, Nat.zero_add]
  exact hb
end
end Go.Proofs.YtglcailcdcpadaaGreatDoor
